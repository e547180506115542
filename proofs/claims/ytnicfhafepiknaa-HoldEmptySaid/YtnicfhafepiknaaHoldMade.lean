/- The fees' calls keep their contracts: all of them. Conditions: fees that New made. -/
import Derived.Test.YtnicfhafepiknaaHoldAt
import Derived.Test.YtnicfhafepiknaaAcctMade
namespace Go.Proofs.Ytnicfhafepiknaa
open Go.RowKit Go.WideShapes

section
variable {T : AcctApi} {w : World} {v a : Value} {X : Accts} {H : List Int} {g : Int} {F : Nat → Prop}
set_option maxRecDepth 100000 in
set_option maxHeartbeats 4000000 in
theorem fees_held (c : Int) (h : IsFees v a H g w F) (hc : I64 c) :
    Calls Try.prog 23 #[v, .int .i64 c] w fun e w' => e = .returned (.int .u64 (hOf H c)) ∧ Below w.heap.size w w' := by
  obtain ⟨b, m, rfl, h⟩ := h
  obtain ⟨_, _, c1, _, _, hl⟩ := FeesB.facts (Turns.begin h).pad
  have hl := hl c hc
  generalize hOf H c = x at hl ⊢
  clear h hc
  go_enter Try.func23, Try.ntmps23
  go_wp2_with fail
  go_ret
  exact ⟨rfl, Below.refl _ _⟩
set_option maxRecDepth 100000 in
set_option maxHeartbeats 4000000 in
theorem fees_got (h : IsFees v a H g w F) :
    Calls Try.prog 24 #[v] w fun e w' => e = .returned (.int .u64 g) ∧ Below w.heap.size w w' := by
  obtain ⟨b, m, rfl, h⟩ := h
  obtain ⟨_, _, _, c2, _, _⟩ := FeesB.facts (Turns.begin h).pad
  clear h
  go_enter Try.func24, Try.ntmps24
  go_wp2_with fail
  go_ret
  exact ⟨rfl, Below.refl _ _⟩

/-- The two things of a call, with the fees laid open, and shut again. -/
theorem fees_two (h : star (IsFees v a H g) (T.IsA a X) w F) : ∃ b m, v = .pointer (some ⟨b, 0, none⟩) ∧ Turns F w w (star (FeesB b m a (hOf H) g) (T.IsA a X)) := by
  obtain ⟨A, B, ⟨b, m, rfl, hp⟩, r⟩ := h
  exact ⟨b, m, rfl, Turns.begin ⟨A, B, hp, r⟩⟩
theorem fees_shut {F0 : Nat → Prop} {w0 : World} {b m : Nat} {h : Int → Int} (hT : Turns F0 w0 w (star (FeesB b m a h g) (T.IsA a X))) (e : h = hOf H) : Turns F0 w0 w (star (IsFees (.pointer (some ⟨b, 0, none⟩)) a H g) (T.IsA a X)) :=
  hT.imp fun _ ⟨A, B, hp, r⟩ => ⟨A, B, ⟨b, m, rfl, e ▸ hp⟩, r⟩

set_option maxRecDepth 100000 in
set_option maxHeartbeats 4000000 in
theorem fees_forfeit (c : Int) (h : star (IsFees v a H g) (T.IsA a X) w F) (hg : GoodF X H g) (hc : I64 c) :
    Calls Try.prog 26 #[v, .int .i64 c] w fun e w' => e = .returned (.int .u64 (forfN H g c)) ∧ Turns F w w' (star (IsFees v a (forfH H g c) (g + forfN H g c)) (T.IsA a X)) := by
  obtain ⟨b, m, rfl, h0⟩ := fees_two h
  obtain ⟨_, _, c1, _, _, hl⟩ := FeesB.facts h0
  have hl := hl c hc
  have hu := hOf_u64 hg.gh c
  have hle := gotN_le (g := g) hu
  have G := Lib.hid (fees_get (hOf H c) h0 hu hg.gg)
  have e0 : forfN H g c = gotN g (hOf H c) := rfl
  have e1 : upH (hOf H) c (hOf H c - gotN g (hOf H c)) = hOf (forfH H g c) := by
    unfold forfH
    by_cases hz : forfN H g c = 0
    · rw [if_pos hz, ← e0, hz, Int.sub_zero, upH_self]
    · have hn : hOf H c ≠ 0 := by rw [e0] at hz; omega
      have hgo : gotN g (hOf H c) = hOf H c := by
        rw [e0] at hz
        unfold gotN at hz ⊢
        split
        · next h => rw [if_pos h] at hz; exact absurd rfl hz
        · rfl
      rw [if_neg hz, hgo, Int.sub_self, hOf_upd (hOf_in hn)]
  have hfew := few_of hg
  rw [e0]
  have HE := Lib.hid e1; have HF := Lib.hid hfew; have HC := Lib.hid hc
  generalize gotN g (hOf H c) = y at G HE hle ⊢
  generalize hOf H c = x at hl hu hle G HE
  have hw : IntKind.u64.wrap (x - y) = x - y := by rw [IntKind.wrap_u64]; have := hu.1; have := hu.2; omega
  clear h h0 e0 e1 hfew hg hc hu hle
  go_enter Try.func26, Try.ntmps26
  go_wp2_with fail
  refine G.out.mono ?_
  rintro e w2 ⟨rfl, h2⟩
  have H2 := Lib.hid h2
  clear h2
  go_wp2_with fail
  refine (fees_keep c (x - y) H2.out HF.out HC.out).mono ?_
  rintro e w3 ⟨rfl, h3⟩
  have H3 := Lib.hid h3
  clear h3
  go_wp2_with fail
  go_ret
  exact ⟨rfl, fees_shut H3.out HE.out⟩

set_option maxRecDepth 100000 in
set_option maxHeartbeats 4000000 in
theorem fees_settle (c fee : Int) (h : star (IsFees v a H g) (T.IsA a X) w F) (hg : GoodF X H g) (hc : I64 c) (hf : U64 fee) :
    Calls Try.prog 25 #[v, .int .i64 c, .int .u64 fee] w fun e w' => e = .returned (.int .u64 (setlN H g c fee)) ∧ Turns F w w' (star (IsFees v a (setlH X H g c fee) (g + setlN H g c fee)) (T.IsA a (setlX X H g c fee))) := by
  obtain ⟨b, m, rfl, h0⟩ := fees_two h
  obtain ⟨_, c0, c1, _, _, hl⟩ := FeesB.facts h0
  have hl := hl c hc
  have hu := hOf_u64 hg.gh c
  obtain ⟨p, hp⟩ : ∃ p, min fee (hOf H c) = p := ⟨_, rfl⟩
  have hpu : U64 p := by have h1 := hf.1; have h2 := hf.2; have h3 := hu.1; exact ⟨by omega, by omega⟩
  have hpl : p ≤ hOf H c := by omega
  have hle := gotN_le (g := g) hpu
  have G := Lib.hid (fees_get p h0 hpu hg.gg)
  have e0 : setlN H g c fee = gotN g p := by unfold setlN gotN; rw [← hp, Int.min_comm]
  have e1 : setlX X H g c fee = putX X c 1 (hOf H c - gotN g p) := by
    unfold setlX
    rw [e0]
    split
    · next hz =>
      have : gotN g p = 0 := by omega
      rw [hz, this, Int.sub_zero, putX_zero]
    · rfl
  have e2 : upH (hOf H) c (if putE X c 1 (hOf H c - gotN g p) = 0 then 0 else hOf H c - gotN g p) = hOf (setlH X H g c fee) := by
    unfold setlH
    rw [e0]
    by_cases hz : hOf H c = 0
    · have e : gotN g p = 0 := by omega
      have : (if putE X c 1 (hOf H c - gotN g p) = 0 then 0 else hOf H c - gotN g p) = hOf H c := by rw [e, hz]; split <;> rfl
      rw [if_pos hz, this, upH_self]
    · rw [if_neg hz, hOf_upd (hOf_in hz)]
  have hfew := few_of hg
  rw [e0, e1]
  have HE := Lib.hid e2; have HF := Lib.hid hfew; have HC := Lib.hid hc
  have hr : U64 (hOf H c - gotN g p) := by have h3 := hu.2; exact ⟨by omega, by omega⟩
  have HR := Lib.hid hr
  have HP := Lib.hid (show I64 (1 : Int) from ⟨by decide, by decide⟩)
  have hw : IntKind.u64.wrap (hOf H c - gotN g p) = hOf H c - gotN g p := by rw [IntKind.wrap_u64]; have := hr.1; have := hr.2; omega
  clear h h0 e0 e1 e2 hfew hg hc hpu hpl hf hu hle hr
  generalize gotN g p = y at G HE HR hw ⊢
  generalize hOf H c = x at hl hp G HE HR hw ⊢
  generalize setlH X H g c fee = H' at HE ⊢
  go_enter Try.func25, Try.ntmps25
  go_wp2_with fail
  refine G.out.mono ?_
  rintro e w2 ⟨rfl, h2⟩
  have c0 := (FeesB.facts h2).2.1
  have H2 := Lib.hid h2
  clear h2
  go_wp2_with fail
  refine (H2.out.comm.aput c 1 (x - y) HC.out HP.out HR.out).mono ?_
  rintro e w3 ⟨rfl, h3⟩
  have H3 := Lib.hid h3.comm
  clear h3
  by_cases hz : putE X c 1 (x - y) = 0
  · rw [if_pos hz] at HE
    have hb : (putE X c 1 (x - y) == 0) = true := by simp [hz]
    generalize putE X c 1 (x - y) = z at hb ⊢
    clear hz
    go_wp2_with fail
    refine (fees_keep c 0 H3.out HF.out HC.out).mono ?_
    rintro e w4 ⟨rfl, h4⟩
    have H4 := Lib.hid h4
    clear h4
    go_wp2_with fail
    go_ret
    exact ⟨rfl, fees_shut H4.out HE.out⟩
  · rw [if_neg hz] at HE
    have hb : (putE X c 1 (x - y) == 0) = false := by simp [hz]
    generalize putE X c 1 (x - y) = z at hb ⊢
    clear hz
    go_wp2_with fail
    refine (fees_keep c (x - y) H3.out HF.out HC.out).mono ?_
    rintro e w4 ⟨rfl, h4⟩
    have H4 := Lib.hid h4
    clear h4
    go_wp2_with fail
    go_ret
    exact ⟨rfl, fees_shut H4.out HE.out⟩

set_option maxRecDepth 100000 in
set_option maxHeartbeats 4000000 in
theorem fees_hold (c fee : Int) (h : star (IsFees v a H g) (T.IsA a X) w F) (hg : GoodF X H g) (hc : I64 c) (hf : U64 fee) :
    Calls Try.prog 27 #[v, .int .i64 c, .int .u64 fee] w fun e w' => e = .returned (.int .u64 (holdN X H c fee)) ∧ Turns F w w' (star (IsFees v a (holdH X H c fee) g) (T.IsA a (holdX X H c fee))) := by
  obtain ⟨b, m, rfl, h0⟩ := fees_two h
  obtain ⟨_, c0, _, _, _, _⟩ := FeesB.facts h0
  have hu := hOf_u64 hg.gh c
  have hru := free_u64 hg.ga c 1
  have HP := Lib.hid (show I64 (1 : Int) from ⟨by decide, by decide⟩)
  have FR := Lib.hid (h0.comm.afree c 1 hc HP.out)
  obtain ⟨p, hp⟩ : ∃ p, min fee (freeA X c 1) = p := ⟨_, rfl⟩
  have hpu : U64 p := by have h1 := hf.1; have h2 := hf.2; have h3 := hru.1; exact ⟨by omega, by omega⟩
  have HPU := Lib.hid hpu
  have HF := Lib.hid (few_of hg); have HC := Lib.hid hc
  by_cases ho : 18446744073709551616 ≤ hOf H c + p
  · have e0 : holdN X H c fee = 0 := by unfold holdN; rw [hp, if_pos ho]
    have e1 : holdX X H c fee = X := by unfold holdX; rw [if_pos e0]
    have e2 : holdH X H c fee = H := by unfold holdH; rw [if_pos e0]
    rw [e0, e1, e2]
    have A := Lib.hid (add_none (hOf H c) p ⟨hu.1, hu.2⟩ ⟨hpu.1, hpu.2⟩ ho)
    clear h h0 e0 e1 e2 hg hf hu hru hpu ho
    generalize freeA X c 1 = r at hp FR
    go_enter Try.func27, Try.ntmps27
    go_wp2_with fail
    refine FR.out.mono ?_
    rintro e w2 ⟨rfl, h2, _⟩
    obtain ⟨_, c0, c1, _, _, hl⟩ := FeesB.facts h2.comm
    have hl := hl c HC.out
    have H2 := Lib.hid h2.comm
    clear h2
    go_wp2_with fail
    refine (A.out _).mono ?_
    rintro e w3 ⟨rfl, rfl⟩
    go_wp2_with fail
    go_ret
    exact ⟨rfl, fees_shut H2.out rfl⟩
  · have e0 : holdN X H c fee = p := by unfold holdN; rw [hp, if_neg ho]
    have e1 : holdX X H c fee = takeX X c 1 p := by
      unfold holdX
      rw [e0]
      split
      · next hz => rw [hz, takeX_zero]
      · rfl
    have A := Lib.hid (add_yes (hOf H c) p ⟨hu.1, hu.2⟩ ⟨hpu.1, hpu.2⟩ (by omega))
    by_cases hk : okE X c 1 = 0
    · have ht : takeE X c 1 p = 0 := by
        refine takeE_zero.2 ⟨hk, ?_⟩
        have : freeA X c 1 = amt X c 1 := by unfold freeA; rw [if_pos hk]
        omega
      have e2 : upH (hOf H) c (hOf H c + p) = hOf (holdH X H c fee) := by
        unfold holdH
        rw [e0]
        split
        · next hz => rw [hz, Int.add_zero, upH_self]
        · have h4 := (okE_zero.1 hk).1
          have h5 := hg.same
          rw [hOf_upd ⟨by omega, by omega⟩]
      rw [e0, e1]
      have HE := Lib.hid e2
      clear h h0 e0 e1 e2 hg hf hu hru hpu ho hk
      generalize freeA X c 1 = r at hp FR
      generalize holdH X H c fee = H' at HE ⊢
      go_enter Try.func27, Try.ntmps27
      go_wp2_with fail
      refine FR.out.mono ?_
      rintro e w2 ⟨rfl, h2, _⟩
      obtain ⟨_, c0, c1, _, _, hl⟩ := FeesB.facts h2.comm
      have hl := hl c HC.out
      have H2 := Lib.hid h2
      clear h2
      go_wp2_with fail
      refine (A.out _).mono ?_
      rintro e w3 ⟨rfl, rfl⟩
      go_wp2_with fail
      refine (H2.out.atake c 1 p HC.out HP.out HPU.out).mono ?_
      rintro e w3 ⟨rfl, h3⟩
      have H3 := Lib.hid h3.comm
      clear h3
      rw [ht]
      go_wp2_with fail
      refine (fees_keep c (hOf H c + p) H3.out HF.out HC.out).mono ?_
      rintro e w4 ⟨rfl, h4⟩
      have H4 := Lib.hid h4
      clear h4
      go_wp2_with fail
      go_ret
      exact ⟨rfl, fees_shut H4.out HE.out⟩
    · have hz : p = 0 := by
        have : freeA X c 1 = 0 := by unfold freeA; rw [if_neg hk]
        have := hf.1
        omega
      subst hz
      have ht : takeE X c 1 0 ≠ 0 := fun h => hk (takeE_zero.1 h).1
      have hb : (takeE X c 1 0 != 0) = true := by simp [ht]
      have e2 : holdH X H c fee = H := by unfold holdH; rw [if_pos e0]
      rw [e0, e1, e2]
      clear h h0 e0 e1 e2 hg hf hu hru hpu ho hk ht
      generalize freeA X c 1 = r at hp FR
      go_enter Try.func27, Try.ntmps27
      go_wp2_with fail
      refine FR.out.mono ?_
      rintro e w2 ⟨rfl, h2, _⟩
      obtain ⟨_, c0, c1, _, _, hl⟩ := FeesB.facts h2.comm
      have hl := hl c HC.out
      have H2 := Lib.hid h2
      clear h2
      go_wp2_with fail
      refine (A.out _).mono ?_
      rintro e w3 ⟨rfl, rfl⟩
      go_wp2_with fail
      refine (H2.out.atake c 1 0 HC.out HP.out HPU.out).mono ?_
      rintro e w3 ⟨rfl, h3⟩
      have H3 := Lib.hid h3.comm
      clear h3
      generalize takeE X c 1 0 = z at hb ⊢
      go_wp2_with fail
      go_ret
      exact ⟨rfl, fees_shut H3.out rfl⟩
end

set_option maxRecDepth 100000 in
set_option maxHeartbeats 4000000 in
theorem fees_new {w : World} {p : Addr} {X : Accts} : Calls Try.prog 22 #[.pointer (some p)] w fun e w' => ∃ v G, e = .returned v ∧ IsFees v (.pointer (some p)) (List.replicate X.length 0) 0 w' G ∧ (∀ k, G k → w.heap.size ≤ k) ∧ Below w.heap.size w w' := by
  have hmm := @run_makeMap Try.prog
  have h0 : St w w nothing := St.start w w (Below.refl _ _)
  have h1 := (h0.add ((Below.refl _ _).alloc (Nat.le_refl _) _) (MV.made w 3) (fun k hk => by rw [hk]; exact Nat.le_refl _))
  have h3 := h1.add (w' := (w.alloc (.map #[] 0)).alloc (.cells #[.pointer (some p), .map (some w.heap.size), .int .u64 0] 77)) ((Below.refl _ _).alloc (Nat.le_refl _) _) (Blk.made _ _ _) (fun k hk => by rw [hk]; exact Nat.le_refl _)
  have h4 := (FeesB.shut (h := hOf (List.replicate X.length 0)) (fun x => by
    have : hOf (List.replicate X.length 0) x = 0 := by
      unfold hOf
      split
      · rw [List.getD_eq_getElem?_getD, List.getElem?_replicate]
        split <;> rfl
      · rfl
    rw [if_pos this]) h3).one
  have H4 := Lib.hid h4
  clear h0 h1 h3 h4
  go_enter Try.func22, Try.ntmps22
  go_wp2
  go_ret
  obtain ⟨F, h, hc, hF⟩ := H4.out
  have e : (w.alloc (.map #[] 0)).heap.size = w.heap.size + 1 := by simp
  rw [e] at h
  exact ⟨_, F, rfl, ⟨_, w.heap.size, rfl, h⟩, fun k hk => (hF k hk).elim (fun h => h.elim) id, H4.out.below⟩

/-- All of package hold's contracts. -/
noncomputable def holdApi : HoldApi acctApi where
  IsF := IsFees
  stable := fun _ _ _ _ => inferInstance
  ptr := fun ⟨_, _, h, _⟩ => ⟨_, h⟩
  new := fun _ _ _ => fees_new
  hold := fun c fee h hg hc hf => fees_hold c fee h hg hc hf
  settle := fun c fee h hg hc hf => fees_settle c fee h hg hc hf
  forfeit := fun c h hg hc => fees_forfeit c h hg hc
  held := fun c h hc => fees_held c h hc
  got := fun h => fees_got h
end Go.Proofs.Ytnicfhafepiknaa
