/- The accounts' calls keep their contracts: Free, Put, Take and Sum. Conditions: accounts that New or Copy made. -/
import Derived.Test.YtnicfhafepiknaaAcctAt
namespace Go.Proofs.Ytnicfhafepiknaa
open Go.RowKit Go.WideShapes

section
variable {F0 : Nat → Prop} {w0 w : World} {b : Nat} {s0 s1 : Value} {X : Accts} {R : HP}
/-- at, where one of both is none. -/
theorem at_none (c s : Int) (h : Turns F0 w0 w (AccB b s0 s1 X)) (he : okE X c s ≠ 0) :
    Calls Try.prog 34 #[.pointer (some ⟨b, 0, none⟩), .int .i64 c, .int .i64 s] w fun e w' => e = .returned (.tuple #[.pointer none, .int .i64 (okE X c s)]) ∧ w' = w := by
  obtain ⟨A0, c0, A1, c1, _, _, _, h0, _⟩ := AccB.facts h
  by_cases hc : 0 ≤ c ∧ c < X.length
  · have hs : ¬ (s = 0 ∨ s = 1) := fun hs => he (okE_zero.2 ⟨hc, hs⟩)
    have e3 : okE X c s = 3 := by unfold okE; rw [if_neg (by omega), if_pos (by omega)]
    rw [e3]
    exact at_noasset c s h0 hc hs
  · have e2 : okE X c s = 2 := by unfold okE; rw [if_pos (by omega)]
    rw [e2]
    exact at_noclient c s h0 hc
/-- at, the place. -/
theorem at_place (c s : Int) (h : Turns F0 w0 w (AccB b s0 s1 X)) (he : okE X c s = 0) :
    ∃ g k, (Calls Try.prog 34 #[.pointer (some ⟨b, 0, none⟩), .int .i64 c, .int .i64 s] w fun e w' => e = .returned (.tuple #[.pointer (some ⟨g, k, none⟩), .int .i64 0]) ∧ w' = w) ∧
      g < w.heap.size ∧ w.cell? ⟨g, k, none⟩ = some (.int .u64 (amt X c s)) ∧ w.frozen? ⟨g, k, none⟩ = false ∧ ∀ v, Turns F0 w0 (w.setCell ⟨g, k, none⟩ (.int .u64 v)) (AccB b s0 s1 (setA X c s v)) := by
  obtain ⟨A0, c0, A1, c1, e0, e1, _, h0, h1⟩ := AccB.facts h
  obtain ⟨g, off, cap, hsl, hg, k1, k2, k3⟩ := AccB.place h he
  obtain ⟨hc, hs⟩ := okE_zero.1 he
  refine ⟨g, off + c.toNat, ?_, hg, k1, k2, k3⟩
  rcases hs with rfl | rfl
  · rw [if_pos rfl, e0] at hsl
    injection hsl with e2 _ e3
    subst e2; subst e3
    exact at_base c h0 hc
  · rw [if_neg (by decide), e1] at hsl
    injection hsl with e2 _ e3
    subst e2; subst e3
    exact at_quote c h0 h1 hc
end

section
variable {w : World} {v : Value} {X : Accts} {F : Nat → Prop}
set_option maxRecDepth 100000 in
set_option maxHeartbeats 4000000 in
theorem acc_free (c s : Int) (h : IsAcct v X w F) :
    Calls Try.prog 15 #[v, .int .i64 c, .int .i64 s] w fun e w' => e = .returned (.int .u64 (freeA X c s)) ∧ Below w.heap.size w w' := by
  obtain ⟨b, s0, s1, ⟨rfl, hl, hg⟩, h⟩ := h
  have h0 := Turns.begin h
  unfold freeA
  by_cases he : okE X c s = 0
  · obtain ⟨g, k, K, hgs, k1, k2, _⟩ := at_place c s h0 he
    rw [if_pos he]
    have K := Lib.hid K
    clear h h0 hg he hl
    generalize amt X c s = x at k1 ⊢
    go_enter Try.func15, Try.ntmps15
    go_wp2_with fail
    refine K.out.mono ?_
    rintro e w2 ⟨rfl, rfl⟩
    go_wp2_with fail
    go_ret
    exact ⟨rfl, Below.refl _ _⟩
  · have K := Lib.hid (at_none c s h0 he)
    rw [if_neg he]
    clear h h0 hg hl
    generalize okE X c s = x at he K ⊢
    have b1 : (x != 0) = true := by simp [he]
    clear he
    go_enter Try.func15, Try.ntmps15
    go_wp2_with fail
    refine K.out.mono ?_
    rintro e w2 ⟨rfl, rfl⟩
    go_wp2_with fail
    go_ret
    exact ⟨rfl, Below.refl _ _⟩

set_option maxRecDepth 100000 in
set_option maxHeartbeats 4000000 in
theorem acc_put (c s n : Int) (h : IsAcct v X w F) (hn : U64 n) :
    Calls Try.prog 11 #[v, .int .i64 c, .int .i64 s, .int .u64 n] w fun e w' => e = .returned (.int .i64 (putE X c s n)) ∧ Turns F w w' (IsAcct v (putX X c s n)) := by
  obtain ⟨b, s0, s1, ⟨rfl, hl, hg⟩, h⟩ := h
  have h0 := Turns.begin h
  have hg' := hg.put c s hn
  have hl' : (putX X c s n).length ≤ 1000 := by rw [putX_length]; exact hl
  by_cases he : okE X c s = 0
  · obtain ⟨g, k, K, hgs, k1, k2, k3⟩ := at_place c s h0 he
    have ha := hg.at c s
    by_cases hf : amt X c s + n < 18446744073709551616
    · have e0 : putE X c s n = 0 := putE_zero.2 ⟨he, hf⟩
      have ex : putX X c s n = setA X c s (amt X c s + n) := by unfold putX; rw [if_pos e0]
      rw [e0]
      have K := Lib.hid K
      have A := Lib.hid (add_yes (amt X c s) n ⟨ha.1, ha.2⟩ ⟨hn.1, hn.2⟩ hf)
      have HT := k3 (amt X c s + n)
      rw [← ex] at HT
      have HT := Lib.hid HT; have HG := Lib.hid hg'; have HL := Lib.hid hl'
      clear h h0 hg he hl hn ha hf e0 ex hg' hl' k3
      generalize amt X c s = x at k1 A HT
      generalize putX X c s n = Y at HT HG HL ⊢
      go_enter Try.func11, Try.ntmps11
      go_wp2_with fail
      refine K.out.mono ?_
      rintro e w2 ⟨rfl, rfl⟩
      go_wp2_with fail
      refine (A.out _).mono ?_
      rintro e w2 ⟨rfl, rfl⟩
      go_wp2_with fail
      go_ret
      exact ⟨rfl, HT.out.imp fun _ hp => ⟨b, s0, s1, ⟨rfl, HL.out, HG.out⟩, hp⟩⟩
    · have e0 : putE X c s n = 5 := by unfold putE; rw [if_pos he, if_pos (by omega)]
      have ex : putX X c s n = X := by unfold putX; rw [e0, if_neg (by decide)]
      rw [e0, ex]
      have K := Lib.hid K
      have A := Lib.hid (add_none (amt X c s) n ⟨ha.1, ha.2⟩ ⟨hn.1, hn.2⟩ (by omega))
      have HT := Lib.hid h0; have HG := Lib.hid hg; have HL := Lib.hid hl
      clear h h0 hg he hl hn ha hf e0 ex hg' hl' k3
      generalize amt X c s = x at k1 A
      go_enter Try.func11, Try.ntmps11
      go_wp2_with fail
      refine K.out.mono ?_
      rintro e w2 ⟨rfl, rfl⟩
      go_wp2_with fail
      refine (A.out _).mono ?_
      rintro e w2 ⟨rfl, rfl⟩
      go_wp2_with fail
      go_ret
      exact ⟨rfl, HT.out.imp fun _ hp => ⟨b, s0, s1, ⟨rfl, HL.out, HG.out⟩, hp⟩⟩
  · have K := Lib.hid (at_none c s h0 he)
    have e0 : putE X c s n = okE X c s := by unfold putE; rw [if_neg he]
    have ex : putX X c s n = X := by unfold putX; rw [if_neg (by rw [e0]; exact he)]
    rw [e0, ex]
    have HT := Lib.hid h0; have HG := Lib.hid hg; have HL := Lib.hid hl
    clear h h0 hg hl hn hg' hl' e0 ex
    generalize okE X c s = x at he K ⊢
    have b1 : (x != 0) = true := by simp [he]
    clear he
    go_enter Try.func11, Try.ntmps11
    go_wp2_with fail
    refine K.out.mono ?_
    rintro e w2 ⟨rfl, rfl⟩
    go_wp2_with fail
    go_ret
    exact ⟨rfl, HT.out.imp fun _ hp => ⟨b, s0, s1, ⟨rfl, HL.out, HG.out⟩, hp⟩⟩

set_option maxRecDepth 100000 in
set_option maxHeartbeats 4000000 in
theorem acc_take (c s n : Int) (h : IsAcct v X w F) (hn : U64 n) :
    Calls Try.prog 12 #[v, .int .i64 c, .int .i64 s, .int .u64 n] w fun e w' => e = .returned (.int .i64 (takeE X c s n)) ∧ Turns F w w' (IsAcct v (takeX X c s n)) := by
  obtain ⟨b, s0, s1, ⟨rfl, hl, hg⟩, h⟩ := h
  have h0 := Turns.begin h
  have hg' := hg.take c s hn
  have hl' : (takeX X c s n).length ≤ 1000 := by rw [takeX_length]; exact hl
  by_cases he : okE X c s = 0
  · obtain ⟨g, k, K, hgs, k1, k2, k3⟩ := at_place c s h0 he
    have ha := hg.at c s
    have A := sub_any (amt X c s) n ⟨ha.1, ha.2⟩ ⟨hn.1, hn.2⟩
    by_cases hf : n ≤ amt X c s
    · have e0 : takeE X c s n = 0 := takeE_zero.2 ⟨he, hf⟩
      have ex : takeX X c s n = setA X c s (amt X c s - n) := by unfold takeX; rw [if_pos e0]
      rw [e0]
      have K := Lib.hid K
      rw [left_yes hf, decide_eq_true hf] at A
      have A := Lib.hid A
      have HT := k3 (amt X c s - n)
      rw [← ex] at HT
      have HT := Lib.hid HT; have HG := Lib.hid hg'; have HL := Lib.hid hl'
      clear h h0 hg he hl hn ha hf e0 ex hg' hl' k3
      generalize amt X c s = x at k1 A HT
      generalize takeX X c s n = Y at HT HG HL ⊢
      go_enter Try.func12, Try.ntmps12
      go_wp2_with fail
      refine K.out.mono ?_
      rintro e w2 ⟨rfl, rfl⟩
      go_wp2_with fail
      refine (A.out _).mono ?_
      rintro e w2 ⟨rfl, rfl⟩
      go_wp2_with fail
      go_ret
      exact ⟨rfl, HT.out.imp fun _ hp => ⟨b, s0, s1, ⟨rfl, HL.out, HG.out⟩, hp⟩⟩
    · have e0 : takeE X c s n = 4 := by unfold takeE; rw [if_pos he, if_pos (by omega)]
      have ex : takeX X c s n = X := by unfold takeX; rw [e0, if_neg (by decide)]
      rw [e0, ex]
      have K := Lib.hid K
      rw [decide_eq_false hf] at A
      have A := Lib.hid A
      have HT := Lib.hid h0; have HG := Lib.hid hg; have HL := Lib.hid hl
      clear h h0 hg he hl hn ha hf e0 ex hg' hl' k3
      generalize amt X c s = x at k1 A
      generalize left x n = y at A
      go_enter Try.func12, Try.ntmps12
      go_wp2_with fail
      refine K.out.mono ?_
      rintro e w2 ⟨rfl, rfl⟩
      go_wp2_with fail
      refine (A.out _).mono ?_
      rintro e w2 ⟨rfl, rfl⟩
      go_wp2_with fail
      go_ret
      exact ⟨rfl, HT.out.imp fun _ hp => ⟨b, s0, s1, ⟨rfl, HL.out, HG.out⟩, hp⟩⟩
  · have K := Lib.hid (at_none c s h0 he)
    have e0 : takeE X c s n = okE X c s := by unfold takeE; rw [if_neg he]
    have ex : takeX X c s n = X := by unfold takeX; rw [if_neg (by rw [e0]; exact he)]
    rw [e0, ex]
    have HT := Lib.hid h0; have HG := Lib.hid hg; have HL := Lib.hid hl
    clear h h0 hg hl hn hg' hl' e0 ex
    generalize okE X c s = x at he K ⊢
    have b1 : (x != 0) = true := by simp [he]
    clear he
    go_enter Try.func12, Try.ntmps12
    go_wp2_with fail
    refine K.out.mono ?_
    rintro e w2 ⟨rfl, rfl⟩
    go_wp2_with fail
    go_ret
    exact ⟨rfl, HT.out.imp fun _ hp => ⟨b, s0, s1, ⟨rfl, HL.out, HG.out⟩, hp⟩⟩
end
end Go.Proofs.Ytnicfhafepiknaa
