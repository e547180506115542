/- PrioPlays answers true, and makes only new memory. Conditions: prio's calls are as their contracts say; the row lies in memory. -/
import Derived.Test.YtkbebllkjmccoaaPrioCmpE
import Derived.Test.YtkbebllkjmccoaaPrioAwake
import Derived.Test.YtkbebllkjmccoaaPrioCmpN
import Derived.Test.YtkbebllkjmccoaaPrioCmpF
import Derived.Test.YtkbebllkjmccoaaPrioNums
import Derived.Deep.RegionHeld3
namespace Go.Proofs.Ytkbebllkjmccoaa
open Go.RowKit Go.WideShapes

theorem flat_iiuu {r : List Value} (h : All2 CK.fits [.i, .i, .u, .u] r) : ∃ a b n m, r = [.int .i64 a, .int .i64 b, .int .u64 n, .int .u64 m] ∧ I64 a ∧ I64 b ∧ U64 n ∧ U64 m := by
  obtain ⟨_, r1, rfl, ⟨a, rfl, ha⟩, h1⟩ := all2_cons h
  obtain ⟨_, r2, rfl, ⟨b, rfl, hb⟩, h2⟩ := all2_cons h1
  obtain ⟨_, r3, rfl, ⟨n, rfl, hn⟩, h3⟩ := all2_cons h2
  obtain ⟨_, r4, rfl, ⟨m, rfl, hm⟩, h4⟩ := all2_cons h3
  obtain rfl := all2_nil h4
  exact ⟨a, b, n, m, rfl, ha, hb, hn, hm⟩
theorem rmQ_none {n : Int} : ∀ {L : Ords}, (∀ p ∈ L, p.id ≠ n) → rmQ n L = L
  | [], _ => rfl
  | o :: t, h => by
    have h1 := h o (by simp)
    have h2 := rmQ_none (n := n) (L := t) fun p hp => h p (by simp [hp])
    unfold rmQ at h2 ⊢
    rw [List.filter_cons_of_pos (by unfold notId; simpa using h1), h2]
theorem rmQ_at {n : Int} {L : Ords} (hd : L.Pairwise fun a b => a.id ≠ b.id) {j : Nat} (hj : j < L.length) (he : L[j].id = n) : rmQ n L = L.take j ++ L.drop (j + 1) := by
  have hs : L = L.take j ++ (L[j] :: L.drop (j + 1)) := by rw [← List.drop_eq_getElem_cons hj, List.take_append_drop]
  rw [hs, List.pairwise_append] at hd
  obtain ⟨_, h2, h3⟩ := hd
  obtain ⟨h4, _⟩ := List.pairwise_cons.1 h2
  have e1 : rmQ n (L.take j) = L.take j := rmQ_none fun p hp => by rw [← he]; exact h3 p hp _ (List.mem_cons_self ..)
  have e2 : rmQ n (L.drop (j + 1)) = L.drop (j + 1) := rmQ_none fun p hp => by rw [← he]; exact (h4 p hp).symm
  conv => lhs; rw [hs]
  unfold rmQ at e1 e2 ⊢
  rw [List.filter_append, List.filter_cons_of_neg (by unfold notId; simpa using he), e1, e2]
theorem find_noneQ {n : Int} {L : Ords} (h : findQ n L = none) : ∀ p ∈ L, p.id ≠ n := fun p hp he => by
  have := List.find?_eq_none.1 h p hp
  unfold isId at this
  rw [he] at this
  simp at this
theorem rmQ_le (n : Int) (L : Ords) : (rmQ n L).length ≤ L.length := List.length_filter_le _ _
theorem head_at {L : Ords} {x : OrdV} {t : Ords} (h : L = x :: t) : ∃ hh : 0 < L.length, L[0] = x := by subst h; exact ⟨by simp, rfl⟩
/-- Where the loop stands: the queue and the document's side hold the same. -/
abbrev TwoAt (T : PrioApi) (q : Addr) (b : Nat) (s : Value) (up : Bool) (L : Ords) : HP := star (T.IsQ (.pointer (some q)) up L) (SideHP b #[.bool up, s] 44 s L nothing)

theorem row_n {w : World} {v : Value} {L : Ords} {n : Nat} (hn : L.length = n) (h : w.ownsRow 0 28 5 v L.length (cellsO L)) : w.ownsRow 0 28 5 v n (cellsO L) := hn ▸ h
theorem two_of {T : PrioApi} {q : Addr} {b : Nat} {s : Value} {up : Bool} {L : Ords} {A B : HP} {w0 w : World} (h : St w0 w (star (T.IsQ (.pointer (some q)) up L) (star A (star B (SideHP b #[.bool up, s] 44 s L nothing))))) : St w0 w (TwoAt T q b s up L) :=
  h.swap.snd.swap.snd
set_option maxRecDepth 100000 in
set_option maxHeartbeats 16000000 in
theorem pplays_some (T : PrioApi) (up : Bool) (A : Option Addr) (cap : Nat) (ps : List (List Value)) (few : Bool) (w : World) (hlp : ps.length ≤ 9223372036854775807) (hp : FlatAt w A [.i, .i, .u, .u] ps) :
    Calls Try.prog 6 #[.bool up, .slice A ps.length cap, .bool few] w fun e w' => e = .returned (.bool true) ∧ Below w.heap.size w w' := by
  obtain ⟨np, hnp⟩ : ∃ k, ps.length = k := ⟨_, rfl⟩
  rw [hnp] at hlp ⊢
  have HNP := Lib.hid hnp; have HP := Lib.hid hp
  clear hnp hp
  go_enter Try.func6, Try.ntmps6
  go_wp2_with fail
  refine (st_queue T (St.start w w (Below.refl _ _)) up).mono ?_
  rintro e w1 ⟨q, rfl, h1⟩
  obtain ⟨b, hb, h2⟩ := h1.local5 #[.bool up, .slice none 0 0] 44
  have h3 := (h2.add (Below.refl _ _) (RowN.none _ 28 5) (fun _ h => h.elim)).third
  have HS : Hid (∃ L s, GoodQ up L ∧ L.length ≤ 0 ∧ St w (w1.alloc (.cells #[.bool up, .slice none 0 0] 44)) (TwoAt T q b s up L)) := Lib.hid ⟨[], .slice none 0 0, goodQ_nil up, by simp, h3.imp fun _ hp => star_mono (fun _ => star_swap) hp⟩
  clear h1 h2 h3
  go_upto_block 0 with fail
  rw [← hb]
  generalize w1.alloc (.cells #[.bool up, .slice none 0 0] 44) = w2 at HS ⊢
  clear hb
  go_cut [9] (fun _ wx => ∃ L s, GoodQ up L ∧ L.length ≤ 60 ∧ St w wx (TwoAt T q b s up L))
  case first =>
    go_wp2_with fail
    go_loopw [9] (fun i wr => ∃ k : Nat, k ≤ np ∧ k ≤ 60 ∧ i = .int .i64 k ∧ ∃ L s, GoodQ up L ∧ L.length ≤ k ∧ St w wr (TwoAt T q b s up L)) (fun i _ => 60 - (intOf i).toNat)
    case atStart => exact ⟨0, by omega, by omega, rfl, HS.out⟩
    case round =>
      obtain ⟨k, hk, hk60, rfl, hat⟩ := hrel
      clear HS
      by_cases hgo : k < np ∧ k < 60
      · as_aux_lemma =>
          obtain ⟨hg1, hg2⟩ := hgo
          obtain ⟨L, s, hgq, hlk, hst⟩ := hat
          have HST := Lib.hid hst; have HG := Lib.hid hgq; have HLK := Lib.hid hlk
          have hbel := hst.below
          obtain ⟨r, off, rfl, hr, hfit, hc⟩ := HP.out.at (i := k) (by rw [HNP.out]; exact hg1)
          generalize ps[k]'(by rw [HNP.out]; exact hg1) = row at hfit hc
          obtain ⟨kd, id, pc, n, rfl, hkd, hid, hpc, hn⟩ := flat_iiuu hfit
          have c0 : w.cell? ⟨r, off + k * 4, none⟩ = some (.int .i64 kd) := hc 0 (by decide)
          have c1 : w.cell? ⟨r, off + k * 4 + 1, none⟩ = some (.int .i64 id) := hc 1 (by decide)
          have c2 : w.cell? ⟨r, off + k * 4 + 2, none⟩ = some (.int .u64 pc) := hc 2 (by decide)
          have c3 : w.cell? ⟨r, off + k * 4 + 3, none⟩ = some (.int .u64 n) := hc 3 (by decide)
          have HC0 := Lib.hid c0; have HN := Lib.hid hn; have HPC := Lib.hid hpc
          have d1 := (hbel.cell (p := ⟨r, off + k * 4 + 1, none⟩) hr).trans c1
          have d2 := (hbel.cell (p := ⟨r, off + k * 4 + 2, none⟩) hr).trans c2
          have d3 := (hbel.cell (p := ⟨r, off + k * 4 + 3, none⟩) hr).trans c3
          have e31 := pn_mask31 id
          obtain ⟨d, hd⟩ : ∃ m : Int, id % 32 = m := ⟨_, rfl⟩
          have d64 : I64 d := ⟨by omega, by omega⟩
          rw [hd] at e31
          have D64 := Lib.hid d64
          clear hfit hc c0 c1 c2 c3 hkd hid hpc hn hst hgq hlk hbel hd d64
          go_wp2_with fail
          go_quiet (fail)
          clear d1 d2 d3 e31
          have h3 : St w (wr.drewN nq) (TwoAt T q b s up L) := HST.out.more (below_drewN (Below.refl _ _) nq)
          obtain ⟨w5, hw5⟩ : ∃ w5, wr.drewN nq = w5 := ⟨_, rfl⟩
          rw [hw5] at h3 ⊢
          have H3 := Lib.hid h3
          clear h3 hw5 HST
          go_upto_if 56 with fail
          go_cut [10, 11] (fun x y wx => ∃ pi ni : Int, x = .int .u64 pi ∧ y = .int .u64 ni ∧ (U64 pi ∧ U64 ni) ∧ wx = w5)
          case first =>
            rcases few with _ | _
            · go_wp2_with fail
              go_meet
              exact ⟨pc, n, rfl, rfl, ⟨HPC.out, HN.out⟩, rfl⟩
            · have e3 := pn_umask3 pc
              have e4 := pn_umask7 n
              obtain ⟨f, hf⟩ : ∃ m : Int, pc % 4 = m := ⟨_, rfl⟩
              obtain ⟨t, ht⟩ : ∃ m : Int, n % 8 = m := ⟨_, rfl⟩
              have f64 : U64 f := ⟨by omega, by omega⟩
              have t64 : U64 t := ⟨by omega, by omega⟩
              rw [hf] at e3; rw [ht] at e4
              have F64 := Lib.hid f64; have T64 := Lib.hid t64
              clear hf ht f64 t64
              go_wp2_with fail
              go_meet
              exact ⟨f, t, rfl, rfl, ⟨F64.out, T64.out⟩, rfl⟩
          case rest =>
            obtain ⟨f, t, rfl, rfl, hft, hw5⟩ := hcut
            subst hw5
            have F64 := Lib.hid hft.1; have T64 := Lib.hid hft.2
            obtain ⟨w6, rfl⟩ : ∃ w6 : World, w6 = wc := ⟨_, rfl⟩
            have d0 := (H3.out.below.cell (p := ⟨r, off + k * 4, none⟩) hr).trans HC0.out
            have e7 := pn_mask7 kd
            obtain ⟨m, hm⟩ : ∃ m : Int, kd % 8 = m := ⟨_, rfl⟩
            rw [hm] at e7
            clear hft HPC hm
            go_upto_block 2 with fail
            go_cut [66] (fun _ wx => ∃ L s, GoodQ up L ∧ L.length ≤ k + 1 ∧ St w wx (TwoAt T q b s up L))
            case first =>
              as_aux_lemma =>
                clear HNP HP hlp hk hk60 hg1 HC0 d0 e7
                by_cases m0 : m = 0
                · subst m0
                  obtain ⟨As, cs, rfl⟩ := rowN_form H3.out.third.rowN
                  rcases L with _ | ⟨⟨x1, x2, x3, x4, x5⟩, tl⟩
                  · as_aux_lemma =>
                      have K := H3.out.qpop HG.out (by simp)
                      simp only [List.headD_nil, List.tail_nil, List.isEmpty_nil, Bool.not_true, OrdV.zero, OrdV.val] at K
                      have HK := Lib.hid K
                      clear K
                      go_wp2_with fail
                      refine HK.out.mono ?_
                      rintro e w7 ⟨rfl, h7⟩
                      obtain ⟨bo, hbo, h8⟩ := h7.local5 #[.int .i64 0, .int .i64 0, .bool false, .int .u64 0, .int .u64 0] 28
                      have H8 := Lib.hid h8
                      clear h7 h8 HK
                      go_upto_region 17 with fail
                      rw [← hbo]
                      generalize w7.alloc (.cells #[.int .i64 0, .int .i64 0, .bool false, .int .u64 0, .int .u64 0] 28) = w8 at H8 ⊢
                      clear hbo H3
                      have hz : (⟨0, 0, false, 0, 0⟩ : OrdV).ok := ⟨by decide, by decide, by decide, by decide⟩
                      have hne : ∀ w' : World, (binOp .neq 28 (.agg #[.int .i64 0, .int .i64 0, .bool false, .int .u64 0, .int .u64 0]) (.agg #[.int .i64 0, .int .i64 0, .bool false, .int .u64 0, .int .u64 0])).run Try.prog w' = .ok (.bool false) w' := fun w' => by
                        have := neq_ord hz hz w'
                        rw [decide_eq_true rfl] at this
                        exact this
                      obtain ⟨_, _, qo, _⟩ := H8.out.blk
                      have o0 := qo 0 (.int .i64 0) rfl
                      have o1 := qo 1 (.int .i64 0) rfl
                      have o2 := qo 2 (.bool false) rfl
                      have o3 := qo 3 (.int .u64 0) rfl
                      have o4 := qo 4 (.int .u64 0) rfl
                      obtain ⟨_, _, qb, _⟩ := H8.out.snd.snd.blk
                      have b1 : w8.cell? ⟨b, 1, none⟩ = some (.slice As 0 cs) := qb 1 _ rfl
                      clear qo qb hz
                      go_quiet (fail)
                      go_wp2_with fail
                      go_meet
                      exact ⟨[], _, goodQ_nil up, by simp, H8.out.snd.more (below_drewN (Below.refl _ _) _)⟩
                  · as_aux_lemma =>
                      have hgl := HLK.out
                      have K := H3.out.qpop_cons HG.out (by omega)
                      simp only [OrdV.val] at K
                      have HK := Lib.hid K
                      have hxo := HG.out.ok _ (List.mem_cons_self ..)
                      have HXO := Lib.hid hxo
                      have HGT := Lib.hid HG.out.tail
                      clear K hxo
                      go_wp2_with fail
                      refine HK.out.mono ?_
                      rintro e w7 ⟨rfl, h7⟩
                      obtain ⟨bo, hbo, h8⟩ := h7.local5 #[.int .i64 x1, .int .i64 x2, .bool x3, .int .u64 x4, .int .u64 x5] 28
                      have H8 := Lib.hid h8
                      clear h7 h8 HK
                      go_upto_region 17 with fail
                      rw [← hbo]
                      generalize w7.alloc (.cells #[.int .i64 x1, .int .i64 x2, .bool x3, .int .u64 x4, .int .u64 x5] 28) = w8 at H8 ⊢
                      clear hbo H3
                      have hne : ∀ w' : World, (binOp .neq 28 (.agg #[.int .i64 x1, .int .i64 x2, .bool x3, .int .u64 x4, .int .u64 x5]) (.agg #[.int .i64 x1, .int .i64 x2, .bool x3, .int .u64 x4, .int .u64 x5])).run Try.prog w' = .ok (.bool false) w' := fun w' => by
                        have := neq_ord HXO.out HXO.out w'
                        rw [decide_eq_true rfl] at this
                        exact this
                      have HS17 : Hid (∀ (w' : World) (C : Array Value) (ss : Value) (M : Ords), St w w' (SideHP b C 44 ss M (star (Blk bo #[.int .i64 x1, .int .i64 x2, .bool x3, .int .u64 x4, .int .u64 x5] 28) (star (T.IsQ (.pointer (some q)) up tl) nothing))) → w'.cell? ⟨bo, 0, none⟩ = some (.int .i64 x1) ∧ w'.cell? ⟨bo, 1, none⟩ = some (.int .i64 x2) ∧ w'.cell? ⟨bo, 2, none⟩ = some (.bool x3) ∧ w'.cell? ⟨bo, 3, none⟩ = some (.int .u64 x4) ∧ w'.cell? ⟨bo, 4, none⟩ = some (.int .u64 x5)) := Lib.hid fun w' C ss M h => by
                        obtain ⟨_, _, qo, _⟩ := h.snd.snd.blk
                        exact ⟨qo 0 _ rfl, qo 1 _ rfl, qo 2 _ rfl, qo 3 _ rfl, qo 4 _ rfl⟩
                      have KD0 := rdrop_any (off := 0) 0 H8.out.drew.flip4 rfl (by have := HLK.out; omega) (by simp)
                      have KD : Hid (Calls Try.prog 17 #[.pointer (some ⟨b, 0, none⟩), .int .i64 0] w8.drew fun e w' => e = .returned (.agg #[.int .i64 x1, .int .i64 x2, .bool x3, .int .u64 x4, .int .u64 x5]) ∧ ∃ s', St w w' (SideHP b #[.bool up, s'] 44 s' tl (star (Blk bo #[.int .i64 x1, .int .i64 x2, .bool x3, .int .u64 x4, .int .u64 x5] 28) (star (T.IsQ (.pointer (some q)) up tl) nothing)))) := Lib.hid KD0
                      have hb1 : w8.drew.cell? ⟨b, 1, none⟩ = some (.slice As (tl.length + 1) cs) := by
                        obtain ⟨_, _, qb, _⟩ := H8.out.drew.flip4.blk
                        exact qb 1 _ rfl
                      have hgt : 0 < tl.length + 1 := Nat.succ_pos _
                      obtain ⟨nl, hnl⟩ : ∃ m, tl.length + 1 = m := ⟨_, rfl⟩
                      rw [hnl] at hb1 hgt
                      clear KD0 hgl
                      refine wp_region_held_drew (S := (fun w' : World => w'.cell? ⟨bo, 0, none⟩ = some (.int .i64 x1) ∧ w'.cell? ⟨bo, 1, none⟩ = some (.int .i64 x2) ∧ w'.cell? ⟨bo, 2, none⟩ = some (.bool x3) ∧ w'.cell? ⟨bo, 3, none⟩ = some (.int .u64 x4) ∧ w'.cell? ⟨bo, 4, none⟩ = some (.int .u64 x5))) (by kernel_rfl) (HS17.out _ _ _ _ H8.out.drew.flip4) (fun hHeld0 => ?_)
                      refine take_one (i := 0) (some 98) (v := ?_) rfl (by kernel_rfl) (by kernel_rfl) (by kernel_rfl) (by kernel_rfl) (fun _ _ _ h => h) (Or.inl ⟨by kernel_rfl, ?_⟩) (by assumption) ?_
                      rotate_left
                      · (intro w hSw; (try dsimp only at hSw); go_simp; try with_reducible rfl)
                      conv => arg 8; simp only [List.getElem_toArray, List.getElem_cons_zero, List.getElem_cons_succ, Act.put, List.setIfInBounds_toArray, List.set_cons_zero, List.set_cons_succ]
                      refine take_one (i := 1) (some 99) (v := ?_) rfl (by kernel_rfl) (by kernel_rfl) (by kernel_rfl) (by kernel_rfl) (fun _ _ _ h => h) (Or.inl ⟨by kernel_rfl, ?_⟩) (by assumption) ?_
                      rotate_left
                      · (intro w hSw; (try dsimp only at hSw); go_simp; try with_reducible rfl)
                      conv => arg 8; simp only [List.getElem_toArray, List.getElem_cons_zero, List.getElem_cons_succ, Act.put, List.setIfInBounds_toArray, List.set_cons_zero, List.set_cons_succ]
                      refine take_one (i := 2) (some 100) (v := ?_) rfl (by kernel_rfl) (by kernel_rfl) (by kernel_rfl) (by kernel_rfl) (fun _ _ _ h => h) (Or.inl ⟨by kernel_rfl, ?_⟩) (by assumption) ?_
                      rotate_left
                      · (intro w hSw; (try dsimp only at hSw); go_simp; try with_reducible rfl)
                      conv => arg 8; simp only [List.getElem_toArray, List.getElem_cons_zero, List.getElem_cons_succ, Act.put, List.setIfInBounds_toArray, List.set_cons_zero, List.set_cons_succ]
                      refine take_one (i := 3) (some 101) (v := ?_) rfl (by kernel_rfl) (by kernel_rfl) (by kernel_rfl) (by kernel_rfl) (fun _ _ _ h => h) (Or.inl ⟨by kernel_rfl, ?_⟩) (by assumption) ?_
                      rotate_left
                      · (intro w hSw; (try dsimp only at hSw); go_simp; try with_reducible rfl)
                      conv => arg 8; simp only [List.getElem_toArray, List.getElem_cons_zero, List.getElem_cons_succ, Act.put, List.setIfInBounds_toArray, List.set_cons_zero, List.set_cons_succ]
                      refine wpAnyH_ready (rs := [4]) (by kernel_rfl) (by simp) ?_
                      refine AllReadyH.cons rfl (fun K hK => ?_) AllReadyH.nil
                      go_simp
                      skip
                      refine hK.out _ _ (by assumption) (fun hHeld1 => ?_)
                      clear hK hHeld0
                      conv => arg 8; simp only [List.getElem_toArray, List.getElem_cons_zero, List.getElem_cons_succ, Act.put, List.setIfInBounds_toArray, List.set_cons_zero, List.set_cons_succ]
                      refine take_one (i := 5) (some 103) (v := ?_) rfl (by kernel_rfl) (by kernel_rfl) (by kernel_rfl) (by kernel_rfl) (fun _ _ _ h => h) (Or.inl ⟨by kernel_rfl, ?_⟩) (by assumption) ?_
                      rotate_left
                      · (intro w hSw; (try dsimp only at hSw); go_simp; try with_reducible rfl)
                      conv => arg 8; simp only [List.getElem_toArray, List.getElem_cons_zero, List.getElem_cons_succ, Act.put, List.setIfInBounds_toArray, List.set_cons_zero, List.set_cons_succ]
                      refine take_one (i := 6) (some 104) (v := ?_) rfl (by kernel_rfl) (by kernel_rfl) (by kernel_rfl) (by kernel_rfl) (fun _ _ _ h => h) (Or.inl ⟨by kernel_rfl, ?_⟩) (by assumption) ?_
                      rotate_left
                      · (intro w hSw; (try dsimp only at hSw); go_simp; try with_reducible rfl)
                      conv => arg 8; simp only [List.getElem_toArray, List.getElem_cons_zero, List.getElem_cons_succ, Act.put, List.setIfInBounds_toArray, List.set_cons_zero, List.set_cons_succ]
                      refine take_one (i := 7) (some 105) (v := ?_) rfl (by kernel_rfl) (by kernel_rfl) (by kernel_rfl) (by kernel_rfl) (fun _ _ _ h => h) (Or.inl ⟨by kernel_rfl, ?_⟩) (by assumption) ?_
                      rotate_left
                      · (intro w hSw; (try dsimp only at hSw); go_simp; try with_reducible rfl)
                      conv => arg 8; simp only [List.getElem_toArray, List.getElem_cons_zero, List.getElem_cons_succ, Act.put, List.setIfInBounds_toArray, List.set_cons_zero, List.set_cons_succ]
                      refine take_one (i := 8) (some 106) (v := ?_) rfl (by kernel_rfl) (by kernel_rfl) (by kernel_rfl) (by kernel_rfl) (fun _ _ _ h => h) (Or.inl ⟨by kernel_rfl, ?_⟩) (by assumption) ?_
                      rotate_left
                      · (intro w hSw; (try dsimp only at hSw); go_simp; try with_reducible rfl)
                      conv => arg 8; simp only [List.getElem_toArray, List.getElem_cons_zero, List.getElem_cons_succ, Act.put, List.setIfInBounds_toArray, List.set_cons_zero, List.set_cons_succ]
                      refine take_one (i := 9) (some 107) (v := ?_) rfl (by kernel_rfl) (by kernel_rfl) (by kernel_rfl) (by kernel_rfl) (fun _ _ _ h => h) (Or.inl ⟨by kernel_rfl, ?_⟩) (by assumption) ?_
                      rotate_left
                      · (intro w hSw; (try dsimp only at hSw); go_simp; try with_reducible rfl)
                      conv => arg 8; simp only [List.getElem_toArray, List.getElem_cons_zero, List.getElem_cons_succ, Act.put, List.setIfInBounds_toArray, List.set_cons_zero, List.set_cons_succ]
                      refine take_one (i := 10) (some 108) (v := ?_) rfl (by kernel_rfl) (by kernel_rfl) (by kernel_rfl) (by kernel_rfl) (fun _ _ _ h => h) (Or.inl ⟨by kernel_rfl, ?_⟩) (by assumption) ?_
                      rotate_left
                      · (intro w hSw; (try dsimp only at hSw); go_simp; try with_reducible rfl)
                      conv => arg 8; simp only [List.getElem_toArray, List.getElem_cons_zero, List.getElem_cons_succ, Act.put, List.setIfInBounds_toArray, List.set_cons_zero, List.set_cons_succ]
                      refine take_one (i := 11) (some 109) (v := ?_) rfl (by kernel_rfl) (by kernel_rfl) (by kernel_rfl) (by kernel_rfl) (fun _ _ _ h => h) (Or.inl ⟨by kernel_rfl, ?_⟩) (by assumption) ?_
                      rotate_left
                      · (intro w hSw; (try dsimp only at hSw); go_simp; try with_reducible rfl)
                      conv => arg 8; simp only [List.getElem_toArray, List.getElem_cons_zero, List.getElem_cons_succ, Act.put, List.setIfInBounds_toArray, List.set_cons_zero, List.set_cons_succ]
                      refine take_one (i := 12) (some 110) (v := ?_) rfl (by kernel_rfl) (by kernel_rfl) (by kernel_rfl) (by kernel_rfl) (fun _ _ _ h => h) (Or.inl ⟨by kernel_rfl, ?_⟩) (by assumption) ?_
                      rotate_left
                      · (intro w hSw; (try dsimp only at hSw); go_simp; try with_reducible rfl)
                      conv => arg 8; simp only [List.getElem_toArray, List.getElem_cons_zero, List.getElem_cons_succ, Act.put, List.setIfInBounds_toArray, List.set_cons_zero, List.set_cons_succ]
                      refine wpAnyH_ready (rs := [13]) (by kernel_rfl) (by simp) ?_
                      refine AllReadyH.cons rfl (fun K hK => ?_) AllReadyH.nil
                      go_simp
                      (go_at_call 17; refine KD.out.mono ?_; rintro e w9 ⟨rfl, s', h9⟩; have hS9 := HS17.out w9 _ _ _ h9; have H9 := Lib.hid h9; clear h9)
                      refine hK.out _ _ hS9 (fun hHeld2 => ?_)
                      clear hK hHeld1 hS9
                      conv => arg 8; simp only [List.getElem_toArray, List.getElem_cons_zero, List.getElem_cons_succ, Act.put, List.setIfInBounds_toArray, List.set_cons_zero, List.set_cons_succ]
                      refine take_one (i := 14) (some 112) (v := ?_) rfl (by kernel_rfl) (by kernel_rfl) (by kernel_rfl) (by kernel_rfl) (fun _ _ _ h => h) (Or.inl ⟨by kernel_rfl, ?_⟩) (by assumption) ?_
                      rotate_left
                      · (intro w hSw; (try dsimp only at hSw); go_simp; try with_reducible rfl)
                      conv => arg 8; simp only [List.getElem_toArray, List.getElem_cons_zero, List.getElem_cons_succ, Act.put, List.setIfInBounds_toArray, List.set_cons_zero, List.set_cons_succ]
                      refine take_one (i := 15) (some 113) (v := ?_) rfl (by kernel_rfl) (by kernel_rfl) (by kernel_rfl) (by kernel_rfl) (fun _ _ _ h => h) (Or.inl ⟨by kernel_rfl, ?_⟩) (by assumption) ?_
                      rotate_left
                      · (intro w hSw; (try dsimp only at hSw); go_simp; try with_reducible rfl)
                      conv => arg 8; simp only [List.getElem_toArray, List.getElem_cons_zero, List.getElem_cons_succ, Act.put, List.setIfInBounds_toArray, List.set_cons_zero, List.set_cons_succ]
                      refine take_one (i := 16) (some 114) (v := ?_) rfl (by kernel_rfl) (by kernel_rfl) (by kernel_rfl) (by kernel_rfl) (fun _ _ _ h => h) (Or.inl ⟨by kernel_rfl, ?_⟩) (by assumption) ?_
                      rotate_left
                      · (intro w hSw; (try dsimp only at hSw); go_simp; try with_reducible rfl)
                      conv => arg 8; simp only [List.getElem_toArray, List.getElem_cons_zero, List.getElem_cons_succ, Act.put, List.setIfInBounds_toArray, List.set_cons_zero, List.set_cons_succ]
                      refine take_one (i := 17) (some 115) (v := ?_) rfl (by kernel_rfl) (by kernel_rfl) (by kernel_rfl) (by kernel_rfl) (fun _ _ _ h => h) (Or.inl ⟨by kernel_rfl, ?_⟩) (by assumption) ?_
                      rotate_left
                      · (intro w hSw; (try dsimp only at hSw); go_simp; try with_reducible rfl)
                      conv => arg 8; simp only [List.getElem_toArray, List.getElem_cons_zero, List.getElem_cons_succ, Act.put, List.setIfInBounds_toArray, List.set_cons_zero, List.set_cons_succ]
                      refine take_one (i := 18) (some 116) (v := ?_) rfl (by kernel_rfl) (by kernel_rfl) (by kernel_rfl) (by kernel_rfl) (fun _ _ _ h => h) (Or.inl ⟨by kernel_rfl, ?_⟩) (by assumption) ?_
                      rotate_left
                      · (intro w hSw; (try dsimp only at hSw); go_simp; try with_reducible rfl)
                      conv => arg 8; simp only [List.getElem_toArray, List.getElem_cons_zero, List.getElem_cons_succ, Act.put, List.setIfInBounds_toArray, List.set_cons_zero, List.set_cons_succ]
                      refine take_one (i := 19) (some 117) (v := ?_) rfl (by kernel_rfl) (by kernel_rfl) (by kernel_rfl) (by kernel_rfl) (fun _ _ _ h => h) (Or.inl ⟨by kernel_rfl, ?_⟩) (by assumption) ?_
                      rotate_left
                      · (intro w hSw; (try dsimp only at hSw); go_simp; try with_reducible rfl)
                      conv => arg 8; simp only [List.getElem_toArray, List.getElem_cons_zero, List.getElem_cons_succ, Act.put, List.setIfInBounds_toArray, List.set_cons_zero, List.set_cons_succ]
                      refine take_one (i := 20) (some 118) (v := ?_) rfl (by kernel_rfl) (by kernel_rfl) (by kernel_rfl) (by kernel_rfl) (fun _ _ _ h => h) (Or.inl ⟨by kernel_rfl, ?_⟩) (by assumption) ?_
                      rotate_left
                      · (intro w hSw; (try dsimp only at hSw); go_simp; try with_reducible rfl)
                      conv => arg 8; simp only [List.getElem_toArray, List.getElem_cons_zero, List.getElem_cons_succ, Act.put, List.setIfInBounds_toArray, List.set_cons_zero, List.set_cons_succ]
                      refine take_one (i := 21) (some 119) (v := undef) rfl (by kernel_rfl) (by kernel_rfl) (by kernel_rfl) (by kernel_rfl) (fun _ _ _ h => h) (Or.inr ⟨by kernel_rfl, rfl⟩) (by assumption) ?_
                      conv => arg 8; simp only [List.getElem_toArray, List.getElem_cons_zero, List.getElem_cons_succ, Act.put, List.setIfInBounds_toArray, List.set_cons_zero, List.set_cons_succ]
                      refine take_one (i := 22) (some 120) (v := undef) rfl (by kernel_rfl) (by kernel_rfl) (by kernel_rfl) (by kernel_rfl) (fun _ _ _ h => h) (Or.inr ⟨by kernel_rfl, rfl⟩) (by assumption) ?_
                      conv => arg 8; simp only [List.getElem_toArray, List.getElem_cons_zero, List.getElem_cons_succ, Act.put, List.setIfInBounds_toArray, List.set_cons_zero, List.set_cons_succ]
                      refine take_one (i := 23) (some 121) (v := undef) rfl (by kernel_rfl) (by kernel_rfl) (by kernel_rfl) (by kernel_rfl) (fun _ _ _ h => h) (Or.inr ⟨by kernel_rfl, rfl⟩) (by assumption) ?_
                      conv => arg 8; simp only [List.getElem_toArray, List.getElem_cons_zero, List.getElem_cons_succ, Act.put, List.setIfInBounds_toArray, List.set_cons_zero, List.set_cons_succ]
                      refine take_one (i := 24) (some 122) (v := ?_) rfl (by kernel_rfl) (by kernel_rfl) (by kernel_rfl) (by kernel_rfl) (fun _ _ _ h => h) (Or.inl ⟨by kernel_rfl, ?_⟩) (by assumption) ?_
                      rotate_left
                      · (intro w hSw; (try dsimp only at hSw); go_simp; try with_reducible rfl)
                      conv => arg 8; simp only [List.getElem_toArray, List.getElem_cons_zero, List.getElem_cons_succ, Act.put, List.setIfInBounds_toArray, List.set_cons_zero, List.set_cons_succ]
                      refine take_one (i := 25) (some 123) (v := ?_) rfl (by kernel_rfl) (by kernel_rfl) (by kernel_rfl) (by kernel_rfl) (fun _ _ _ h => h) (Or.inl ⟨by kernel_rfl, ?_⟩) (by assumption) ?_
                      rotate_left
                      · (intro w hSw; (try dsimp only at hSw); go_simp; try with_reducible rfl)
                      conv => arg 8; simp only [List.getElem_toArray, List.getElem_cons_zero, List.getElem_cons_succ, Act.put, List.setIfInBounds_toArray, List.set_cons_zero, List.set_cons_succ]
                      refine wpAnyH_done (by kernel_rfl) ?_ _
                      go_wp2_with fail
                      go_meet
                      exact ⟨tl, s', HGT.out, by have := HLK.out; simp at this; omega, H9.out.flip4.snd⟩
                · by_cases m1 : m = 1
                  · as_aux_lemma =>
                      subst m1
                      have hl := HLK.out
                      have K := H3.out.qcut t HG.out (by omega) T64.out
                      have HK := Lib.hid K
                      clear K hl
                      go_wp2_with fail
                      refine HK.out.mono ?_
                      rintro e w7 ⟨rfl, h7⟩
                      have hl := HLK.out
                      have K2 := rcut_any (off := 0) t h7.third' rfl (by omega) HG.out.ok T64.out
                      have HK2 := Lib.hid K2
                      clear h7 HK K2 hl
                      go_wp2_with fail
                      refine HK2.out.mono ?_
                      rintro e w8 ⟨rfl, s', h8⟩
                      have H8 := Lib.hid h8.third
                      clear h8 HK2
                      go_wp2_with fail
                      go_meet
                      exact ⟨cutQ t L, s', HG.out.cut T64.out, by rw [cutQ_length]; have := HLK.out; omega, H8.out⟩
                  · by_cases m2 : m = 2
                    · subst m2
                      obtain ⟨As, cs, rfl⟩ := rowN_form H3.out.third.rowN
                      have hll := HLK.out
                      have K := H3.out.qremove d HG.out (by omega) D64.out
                      have HGR := Lib.hid (HG.out.rm d)
                      rcases atFrom_spec d L 0 with ⟨j, hj, e1, eid, ef⟩ | ⟨e1, ef⟩
                      · as_aux_lemma =>
                          have e1 : atQ d L = ((j : Nat) : Int) := by unfold atQ; rw [e1, Nat.zero_add]
                          have erm := rmQ_at HG.out.ids hj eid
                          have hyo := HG.out.ok _ (List.getElem_mem hj)
                          obtain ⟨⟨y1, y2, y3, y4, y5⟩, hy⟩ : ∃ y, L[j] = y := ⟨_, rfl⟩
                          rw [hy] at ef hyo
                          have HK : Hid (Calls Try.prog 14 #[.pointer (some q), .int .i64 d] w6 fun e w' => e = .returned (.tuple #[.agg #[.int .i64 y1, .int .i64 y2, .bool y3, .int .u64 y4, .int .u64 y5], .bool true]) ∧ St w w' (star (T.IsQ (.pointer (some q)) up (rmQ d L)) (SideHP b #[.bool up, .slice As L.length cs] 44 (.slice As L.length cs) L nothing))) := Lib.hid (K.mono fun e w' ⟨o, h1, h2, h3⟩ => by
                            obtain rfl := h1 _ ef
                            rw [ef] at h2
                            exact ⟨h2, h3⟩)
                          have HYO := Lib.hid hyo; have HY := Lib.hid hy; have HRM := Lib.hid erm; have HJ := Lib.hid hj
                          clear K hyo ef eid
                          go_wp2_with fail
                          refine HK.out.mono ?_
                          rintro e w7 ⟨rfl, h7⟩
                          obtain ⟨bo, hbo, h8⟩ := h7.local5 #[.int .i64 y1, .int .i64 y2, .bool y3, .int .u64 y4, .int .u64 y5] 28
                          have H8 := Lib.hid h8
                          clear h7 h8 HK
                          go_upto_region 24 with fail
                          rw [← hbo]
                          generalize w7.alloc (.cells #[.int .i64 y1, .int .i64 y2, .bool y3, .int .u64 y4, .int .u64 y5] 28) = w8 at H8 ⊢
                          clear hbo H3
                          have KAT := rat_any (w := w8) (b := b) (off := 0) d (by obtain ⟨_, _, qb, _⟩ := H8.out.flip4.blk; exact qb 1 _ rfl) H8.out.flip4.swap.rowN rfl (by omega)
                          rw [e1] at KAT
                          have HKA := Lib.hid KAT
                          clear KAT e1
                          go_wp2_with fail
                          refine HKA.out.mono ?_
                          rintro e w8 ⟨rfl, rfl⟩
                          clear HKA
                          go_upto_region 25 with fail
                          have hne : ∀ w' : World, (binOp .neq 28 (.agg #[.int .i64 y1, .int .i64 y2, .bool y3, .int .u64 y4, .int .u64 y5]) (.agg #[.int .i64 y1, .int .i64 y2, .bool y3, .int .u64 y4, .int .u64 y5])).run Try.prog w' = .ok (.bool false) w' := fun w' => by
                            have := neq_ord HYO.out HYO.out w'
                            rw [decide_eq_true rfl] at this
                            exact this
                          have HS25 : Hid (∀ (w' : World) (C : Array Value) (ss : Value) (M : Ords), St w w' (SideHP b C 44 ss M (star (Blk bo #[.int .i64 y1, .int .i64 y2, .bool y3, .int .u64 y4, .int .u64 y5] 28) (star (T.IsQ (.pointer (some q)) up (rmQ d L)) nothing))) → w'.cell? ⟨bo, 0, none⟩ = some (.int .i64 y1) ∧ w'.cell? ⟨bo, 1, none⟩ = some (.int .i64 y2) ∧ w'.cell? ⟨bo, 2, none⟩ = some (.bool y3) ∧ w'.cell? ⟨bo, 3, none⟩ = some (.int .u64 y4) ∧ w'.cell? ⟨bo, 4, none⟩ = some (.int .u64 y5)) := Lib.hid fun w' C ss M h => by
                            obtain ⟨_, _, qo, _⟩ := h.snd.snd.blk
                            exact ⟨qo 0 _ rfl, qo 1 _ rfl, qo 2 _ rfl, qo 3 _ rfl, qo 4 _ rfl⟩
                          have KD0 := rdrop_any (off := 0) j H8.out.drew.flip4 rfl (by omega) HJ.out
                          rw [HY.out] at KD0
                          have KD : Hid (Calls Try.prog 17 #[.pointer (some ⟨b, 0, none⟩), .int .i64 (j : Nat)] w8.drew fun e w' => e = .returned (.agg #[.int .i64 y1, .int .i64 y2, .bool y3, .int .u64 y4, .int .u64 y5]) ∧ ∃ s', St w w' (SideHP b #[.bool up, s'] 44 s' (L.take j ++ L.drop (j + 1)) (star (Blk bo #[.int .i64 y1, .int .i64 y2, .bool y3, .int .u64 y4, .int .u64 y5] 28) (star (T.IsQ (.pointer (some q)) up (rmQ d L)) nothing)))) := Lib.hid KD0
                          have hge : 0 ≤ j := Nat.zero_le _
                          have hge2 : (0 : Int) ≤ ((j : Nat) : Int) := by omega
                          clear KD0 hll hy erm
                          refine wp_region_held_drew (S := (fun w' : World => w'.cell? ⟨bo, 0, none⟩ = some (.int .i64 y1) ∧ w'.cell? ⟨bo, 1, none⟩ = some (.int .i64 y2) ∧ w'.cell? ⟨bo, 2, none⟩ = some (.bool y3) ∧ w'.cell? ⟨bo, 3, none⟩ = some (.int .u64 y4) ∧ w'.cell? ⟨bo, 4, none⟩ = some (.int .u64 y5))) (by kernel_rfl) (HS25.out _ _ _ _ H8.out.drew.flip4) (fun hHeld0 => ?_)
                          refine take_one (i := 0) (some 143) (v := ?_) rfl (by kernel_rfl) (by kernel_rfl) (by kernel_rfl) (by kernel_rfl) (fun _ _ _ h => h) (Or.inl ⟨by kernel_rfl, ?_⟩) (by assumption) ?_
                          rotate_left
                          · (intro w hSw; (try dsimp only at hSw); go_simp; try with_reducible rfl)
                          conv => arg 8; simp only [List.getElem_toArray, List.getElem_cons_zero, List.getElem_cons_succ, Act.put, List.setIfInBounds_toArray, List.set_cons_zero, List.set_cons_succ]
                          refine take_one (i := 1) (some 144) (v := ?_) rfl (by kernel_rfl) (by kernel_rfl) (by kernel_rfl) (by kernel_rfl) (fun _ _ _ h => h) (Or.inl ⟨by kernel_rfl, ?_⟩) (by assumption) ?_
                          rotate_left
                          · (intro w hSw; (try dsimp only at hSw); go_simp; try with_reducible rfl)
                          conv => arg 8; simp only [List.getElem_toArray, List.getElem_cons_zero, List.getElem_cons_succ, Act.put, List.setIfInBounds_toArray, List.set_cons_zero, List.set_cons_succ]
                          refine take_one (i := 2) (some 145) (v := ?_) rfl (by kernel_rfl) (by kernel_rfl) (by kernel_rfl) (by kernel_rfl) (fun _ _ _ h => h) (Or.inl ⟨by kernel_rfl, ?_⟩) (by assumption) ?_
                          rotate_left
                          · (intro w hSw; (try dsimp only at hSw); go_simp; try with_reducible rfl)
                          conv => arg 8; simp only [List.getElem_toArray, List.getElem_cons_zero, List.getElem_cons_succ, Act.put, List.setIfInBounds_toArray, List.set_cons_zero, List.set_cons_succ]
                          refine take_one (i := 3) (some 146) (v := ?_) rfl (by kernel_rfl) (by kernel_rfl) (by kernel_rfl) (by kernel_rfl) (fun _ _ _ h => h) (Or.inl ⟨by kernel_rfl, ?_⟩) (by assumption) ?_
                          rotate_left
                          · (intro w hSw; (try dsimp only at hSw); go_simp; try with_reducible rfl)
                          conv => arg 8; simp only [List.getElem_toArray, List.getElem_cons_zero, List.getElem_cons_succ, Act.put, List.setIfInBounds_toArray, List.set_cons_zero, List.set_cons_succ]
                          refine take_one (i := 4) (some 147) (v := ?_) rfl (by kernel_rfl) (by kernel_rfl) (by kernel_rfl) (by kernel_rfl) (fun _ _ _ h => h) (Or.inl ⟨by kernel_rfl, ?_⟩) (by assumption) ?_
                          rotate_left
                          · (intro w hSw; (try dsimp only at hSw); go_simp; try with_reducible rfl)
                          conv => arg 8; simp only [List.getElem_toArray, List.getElem_cons_zero, List.getElem_cons_succ, Act.put, List.setIfInBounds_toArray, List.set_cons_zero, List.set_cons_succ]
                          refine take_one (i := 5) (some 148) (v := ?_) rfl (by kernel_rfl) (by kernel_rfl) (by kernel_rfl) (by kernel_rfl) (fun _ _ _ h => h) (Or.inl ⟨by kernel_rfl, ?_⟩) (by assumption) ?_
                          rotate_left
                          · (intro w hSw; (try dsimp only at hSw); go_simp; try with_reducible rfl)
                          conv => arg 8; simp only [List.getElem_toArray, List.getElem_cons_zero, List.getElem_cons_succ, Act.put, List.setIfInBounds_toArray, List.set_cons_zero, List.set_cons_succ]
                          refine take_one (i := 6) (some 149) (v := ?_) rfl (by kernel_rfl) (by kernel_rfl) (by kernel_rfl) (by kernel_rfl) (fun _ _ _ h => h) (Or.inl ⟨by kernel_rfl, ?_⟩) (by assumption) ?_
                          rotate_left
                          · (intro w hSw; (try dsimp only at hSw); go_simp; try with_reducible rfl)
                          conv => arg 8; simp only [List.getElem_toArray, List.getElem_cons_zero, List.getElem_cons_succ, Act.put, List.setIfInBounds_toArray, List.set_cons_zero, List.set_cons_succ]
                          refine take_one (i := 7) (some 150) (v := ?_) rfl (by kernel_rfl) (by kernel_rfl) (by kernel_rfl) (by kernel_rfl) (fun _ _ _ h => h) (Or.inl ⟨by kernel_rfl, ?_⟩) (by assumption) ?_
                          rotate_left
                          · (intro w hSw; (try dsimp only at hSw); go_simp; try with_reducible rfl)
                          conv => arg 8; simp only [List.getElem_toArray, List.getElem_cons_zero, List.getElem_cons_succ, Act.put, List.setIfInBounds_toArray, List.set_cons_zero, List.set_cons_succ]
                          refine take_one (i := 8) (some 151) (v := ?_) rfl (by kernel_rfl) (by kernel_rfl) (by kernel_rfl) (by kernel_rfl) (fun _ _ _ h => h) (Or.inl ⟨by kernel_rfl, ?_⟩) (by assumption) ?_
                          rotate_left
                          · (intro w hSw; (try dsimp only at hSw); go_simp; try with_reducible rfl)
                          conv => arg 8; simp only [List.getElem_toArray, List.getElem_cons_zero, List.getElem_cons_succ, Act.put, List.setIfInBounds_toArray, List.set_cons_zero, List.set_cons_succ]
                          refine take_one (i := 9) (some 152) (v := ?_) rfl (by kernel_rfl) (by kernel_rfl) (by kernel_rfl) (by kernel_rfl) (fun _ _ _ h => h) (Or.inl ⟨by kernel_rfl, ?_⟩) (by assumption) ?_
                          rotate_left
                          · (intro w hSw; (try dsimp only at hSw); go_simp; try with_reducible rfl)
                          conv => arg 8; simp only [List.getElem_toArray, List.getElem_cons_zero, List.getElem_cons_succ, Act.put, List.setIfInBounds_toArray, List.set_cons_zero, List.set_cons_succ]
                          refine wpAnyH_ready (rs := [10]) (by kernel_rfl) (by simp) ?_
                          refine AllReadyH.cons rfl (fun K hK => ?_) AllReadyH.nil
                          go_simp
                          (go_at_call 17; refine KD.out.mono ?_; rintro e w9 ⟨rfl, s', h9⟩; have hS9 := HS25.out w9 _ _ _ h9; have H9 := Lib.hid h9; clear h9)
                          refine hK.out _ _ hS9 (fun hHeld1 => ?_)
                          clear hK hHeld0 hS9
                          conv => arg 8; simp only [List.getElem_toArray, List.getElem_cons_zero, List.getElem_cons_succ, Act.put, List.setIfInBounds_toArray, List.set_cons_zero, List.set_cons_succ]
                          refine take_one (i := 11) (some 154) (v := ?_) rfl (by kernel_rfl) (by kernel_rfl) (by kernel_rfl) (by kernel_rfl) (fun _ _ _ h => h) (Or.inl ⟨by kernel_rfl, ?_⟩) (by assumption) ?_
                          rotate_left
                          · (intro w hSw; (try dsimp only at hSw); go_simp; try with_reducible rfl)
                          conv => arg 8; simp only [List.getElem_toArray, List.getElem_cons_zero, List.getElem_cons_succ, Act.put, List.setIfInBounds_toArray, List.set_cons_zero, List.set_cons_succ]
                          refine take_one (i := 12) (some 155) (v := ?_) rfl (by kernel_rfl) (by kernel_rfl) (by kernel_rfl) (by kernel_rfl) (fun _ _ _ h => h) (Or.inl ⟨by kernel_rfl, ?_⟩) (by assumption) ?_
                          rotate_left
                          · (intro w hSw; (try dsimp only at hSw); go_simp; try with_reducible rfl)
                          conv => arg 8; simp only [List.getElem_toArray, List.getElem_cons_zero, List.getElem_cons_succ, Act.put, List.setIfInBounds_toArray, List.set_cons_zero, List.set_cons_succ]
                          refine take_one (i := 13) (some 156) (v := ?_) rfl (by kernel_rfl) (by kernel_rfl) (by kernel_rfl) (by kernel_rfl) (fun _ _ _ h => h) (Or.inl ⟨by kernel_rfl, ?_⟩) (by assumption) ?_
                          rotate_left
                          · (intro w hSw; (try dsimp only at hSw); go_simp; try with_reducible rfl)
                          conv => arg 8; simp only [List.getElem_toArray, List.getElem_cons_zero, List.getElem_cons_succ, Act.put, List.setIfInBounds_toArray, List.set_cons_zero, List.set_cons_succ]
                          refine wpAnyH_done (by kernel_rfl) ?_ _
                          go_wp2_with fail
                          go_meet
                          exact ⟨rmQ d L, s', HGR.out, by have := HLK.out; have := rmQ_le d L; omega, by have h9 := H9.out.flip4.snd; rw [← HRM.out] at h9; exact h9⟩
                      · as_aux_lemma =>
                          have e1 : atQ d L = -1 := e1
                          have erm : rmQ d L = L := rmQ_none (find_noneQ ef)
                          rw [erm] at K
                          rw [ef] at K
                          have HK := Lib.hid K
                          clear K ef erm
                          go_wp2_with fail
                          refine HK.out.mono ?_
                          rintro e w7 ⟨⟨y1, y2, y3, y4, y5⟩, _, rfl, h7⟩
                          obtain ⟨bo, hbo, h8⟩ := h7.local5 #[.int .i64 y1, .int .i64 y2, .bool y3, .int .u64 y4, .int .u64 y5] 28
                          have H8 := Lib.hid h8
                          clear h7 h8 HK
                          simp only [OrdV.val, Option.isSome_none]
                          go_upto_region 24 with fail
                          rw [← hbo]
                          generalize w7.alloc (.cells #[.int .i64 y1, .int .i64 y2, .bool y3, .int .u64 y4, .int .u64 y5] 28) = w8 at H8 ⊢
                          clear hbo H3
                          have KAT := rat_any (w := w8) (b := b) (off := 0) d (by obtain ⟨_, _, qb, _⟩ := H8.out.flip4.blk; exact qb 1 _ rfl) H8.out.flip4.swap.rowN rfl (by omega)
                          rw [e1] at KAT
                          have HKA := Lib.hid KAT
                          clear KAT e1
                          go_wp2_with fail
                          refine HKA.out.mono ?_
                          rintro e w8 ⟨rfl, rfl⟩
                          clear HKA
                          go_upto_region 25 with fail
                          go_quiet (fail)
                          go_wp2_with fail
                          go_meet
                          exact ⟨L, _, HG.out, by have := HLK.out; omega, H8.out.snd.more (below_drewN (Below.refl _ _) _)⟩
                    · have g0 : (m == 0) = false := beq_eq_false_iff_ne.2 m0
                      have g1 : (m == 1) = false := beq_eq_false_iff_ne.2 m1
                      have g2 : (m == 2) = false := beq_eq_false_iff_ne.2 m2
                      obtain ⟨As, cs, rfl⟩ := rowN_form H3.out.third.rowN
                      obtain ⟨nn, hnn⟩ : ∃ x : Int, (k : Int) * 7 % 32 + 32 * ((k : Int) / 32) = x := ⟨_, rfl⟩
                      have n64 : I64 nn := ⟨by omega, by omega⟩
                      have hok : (⟨nn, d, !up, f, t⟩ : OrdV).ok := ⟨n64, D64.out, F64.out, T64.out⟩
                      obtain ⟨bo, hbo, h4⟩ := H3.out.local5 #[.int .i64 nn, .int .i64 d, .bool (!up), .int .u64 f, .int .u64 t] 28
                      have H4 := Lib.hid h4; have N64 := Lib.hid n64; have HOK := Lib.hid hok
                      clear h4 n64 hok
                      go_upto_region 12 with fail
                      rw [← hbo]
                      generalize w6.alloc (.cells #[.int .i64 nn, .int .i64 d, .bool (!up), .int .u64 f, .int .u64 t] 28) = w7 at H4 ⊢
                      clear hbo hnn H3
                      obtain ⟨_, _, qo, _⟩ := H4.out.blk
                      have o0 := qo 0 (.int .i64 nn) rfl
                      have o1 := qo 1 (.int .i64 d) rfl
                      have o2 := qo 2 (.bool (!up)) rfl
                      have o3 := qo 3 (.int .u64 f) rfl
                      have o4 := qo 4 (.int .u64 t) rfl
                      obtain ⟨_, _, qb, _⟩ := H4.out.snd.snd.blk
                      have K := rat_any (w := w7) (b := b) (off := 0) nn (qb 1 _ rfl) H4.out.snd.snd.swap.rowN rfl (by have := HLK.out; omega)
                      clear qo qb
                      rcases atFrom_spec nn L 0 with ⟨j, hj, e1, _, _⟩ | ⟨e1, e2⟩
                      · as_aux_lemma =>
                          have e1 : atQ nn L = ((j : Nat) : Int) := by unfold atQ; rw [e1, Nat.zero_add]
                          rw [e1] at K
                          have HK := Lib.hid K
                          clear K e1
                          go_wp2_with fail
                          refine HK.out.mono ?_
                          rintro e w8 ⟨rfl, rfl⟩
                          clear HK
                          go_wp2_with fail
                          go_meet
                          exact ⟨L, _, HG.out, by have := HLK.out; omega, H4.out.snd⟩
                      · as_aux_lemma =>
                          have e1 : atQ nn L = -1 := e1
                          rw [e1] at K
                          have HK := Lib.hid K
                          have hnid : ∀ p ∈ L, p.id ≠ nn := fun p hp he => by
                            have := List.find?_eq_none.1 e2 p hp
                            unfold isId at this
                            rw [he] at this
                            simp at this
                          have HGP := Lib.hid (HG.out.push HOK.out hnid)
                          have K2 := H4.out.swap.qpush ⟨nn, d, !up, f, t⟩ HG.out (by have := HLK.out; omega) HOK.out hnid
                          unfold OrdV.val at K2
                          have HK2 := Lib.hid K2
                          clear K K2 e1 e2 hnid
                          go_wp2_with fail
                          refine HK.out.mono ?_
                          rintro e w8 ⟨rfl, rfl⟩
                          clear HK
                          go_wp2_with fail
                          refine HK2.out.mono ?_
                          rintro e w9 ⟨rfl, h9⟩
                          have h9 := h9.flip4
                          obtain ⟨_, _, qo, _⟩ := h9.flip4.swap.blk
                          have p0 := qo 0 (.int .i64 nn) rfl
                          have p1 := qo 1 (.int .i64 d) rfl
                          have p2 := qo 2 (.bool (!up)) rfl
                          have p3 := qo 3 (.int .u64 f) rfl
                          have p4 := qo 4 (.int .u64 t) rfl
                          have K3 := rpush_any (off := 0) (up := up) ⟨nn, d, !up, f, t⟩ h9 rfl rfl (by have := HLK.out; omega)
                          unfold OrdV.val at K3
                          have HK3 := Lib.hid K3
                          clear K3 h9 HK2 qo o0 o1 o2 o3 o4
                          go_wp2_with fail
                          refine HK3.out.mono ?_
                          rintro e w10 ⟨rfl, s', h10⟩
                          have H10 := Lib.hid h10.flip4
                          clear h10 HK3 p0 p1 p2 p3 p4
                          go_wp2_with fail
                          go_meet
                          exact ⟨insQ up ⟨nn, d, !up, f, t⟩ L, s', HGP.out, by rw [insQ_length]; have := HLK.out; omega, H10.out.swap.snd⟩
            case rest =>
              as_aux_lemma =>
                obtain ⟨L2, s2, hg2, hl2, h2⟩ := hcut
                obtain ⟨w7, rfl⟩ : ∃ w7 : World, w7 = wc := ⟨_, rfl⟩
                obtain ⟨As, cs, rfl⟩ := rowN_form h2.third.rowN
                obtain ⟨n, hn2⟩ : ∃ n, L2.length = n := ⟨_, rfl⟩
                have HLN := Lib.hid hn2; have HG2 := Lib.hid hg2
                have HNK : Hid (n ≤ 60 ∧ n ≤ k + 1) := Lib.hid (by omega)
                rw [hn2] at h2
                obtain ⟨ne, hne⟩ : ∃ r, (!L2.isEmpty) = r := ⟨_, rfl⟩
                obtain ⟨fd, hfd⟩ : ∃ r, (findQ d L2).isSome = r := ⟨_, rfl⟩
                have HNE := Lib.hid hne; have HFD := Lib.hid hfd
                have K1 := h2.qpeek hg2 (by omega)
                rw [hne] at K1
                have HK1 := Lib.hid K1
                clear K1 h2 H3 d0 e7 HG HLK HN HC0 hne hfd hg2 hl2 hn2
                go_wp2_with fail
                refine HK1.out.mono ?_
                rintro e w8 ⟨⟨p1, p2, p3, p4, p5⟩, hp1, rfl, h8, _⟩
                obtain ⟨bp, hbp, h9⟩ := h8.local5 #[.int .i64 p1, .int .i64 p2, .bool p3, .int .u64 p4, .int .u64 p5] 28
                have K2 := h9.swap.qfind d HG2.out (by have := HNK.out; have := HLN.out; omega) D64.out
                rw [HFD.out] at K2
                have HK2 := Lib.hid K2; have HP1 := Lib.hid hp1
                clear h8 h9 HK1 K2 hp1
                simp only [OrdV.val]
                go_upto_region 28 with fail
                rw [← hbp]
                generalize w8.alloc (.cells #[.int .i64 p1, .int .i64 p2, .bool p3, .int .u64 p4, .int .u64 p5] 28) = w9 at HK2 ⊢
                clear hbp
                go_wp2_with fail
                refine HK2.out.mono ?_
                rintro e w10 ⟨⟨f1, f2, f3, f4, f5⟩, hf1, rfl, h10, _⟩
                obtain ⟨bf, hbf, h11⟩ := h10.local5 #[.int .i64 f1, .int .i64 f2, .bool f3, .int .u64 f4, .int .u64 f5] 28
                have HB29 : Hid (St w _ (BaseHP T q b bf bp up L2 As n cs ⟨f1, f2, f3, f4, f5⟩ ⟨p1, p2, p3, p4, p5⟩)) := Lib.hid h11.swap; have HF1 := Lib.hid hf1
                clear h10 h11 HK2 hf1
                simp only [OrdV.val]
                go_upto_region 29 with fail
                rw [← hbf]
                generalize w10.alloc (.cells #[.int .i64 f1, .int .i64 f2, .bool f3, .int .u64 f4, .int .u64 f5] 28) = wB at HB29 ⊢
                clear hbf
                go_cut [232] (fun s232 wx => s232 = .bool false ∧ St w wx (TwoAt T q b (.slice As n cs) up L2))
                case first =>
                  have HORD : Hid (∀ w' : World, St w w' (BaseHP T q b bf bp up L2 As n cs ⟨f1, f2, f3, f4, f5⟩ ⟨p1, p2, p3, p4, p5⟩) → OrdsIn w' As L2) := Lib.hid fun w' h => row_ords (row_n HLN.out h.snd.snd.snd.snd.rowN)
                  have HKL : Hid (∀ w' : World, St w w' (BaseHP T q b bf bp up L2 As n cs ⟨f1, f2, f3, f4, f5⟩ ⟨p1, p2, p3, p4, p5⟩) → Calls Try.prog 11 #[.pointer (some q)] w' fun e w'' => e = .returned (.int .i64 n) ∧ St w w'' (BaseHP T q b bf bp up L2 As n cs ⟨f1, f2, f3, f4, f5⟩ ⟨p1, p2, p3, p4, p5⟩)) := Lib.hid fun w' h => (h.qlen (by have := HNK.out; have := HLN.out; omega)).mono fun e w'' ⟨h1, h2, _⟩ => ⟨by rw [h1, HLN.out], h2⟩
                  have KA := Lib.hid (HB29.out.drew.qall HG2.out (by have := HNK.out; have := HLN.out; omega))
                  have hcase : (L2 = [] ∧ ne = false ∧ fd = false ∧ atQ d L2 = -1) ∨ (∃ hpos : 0 < L2.length, L2[0] = ⟨p1, p2, p3, p4, p5⟩ ∧ ne = true ∧ ((fd = false ∧ atQ d L2 = -1) ∨ ∃ j, ∃ hj : j < L2.length, L2[j] = ⟨f1, f2, f3, f4, f5⟩ ∧ fd = true ∧ atQ d L2 = ((j : Nat) : Int))) := by
                    have ha : (fd = false ∧ atQ d L2 = -1) ∨ ∃ j, ∃ hj : j < L2.length, L2[j] = ⟨f1, f2, f3, f4, f5⟩ ∧ fd = true ∧ atQ d L2 = ((j : Nat) : Int) := by
                      rcases atFrom_spec d L2 0 with ⟨j, hj, e1, _, ef⟩ | ⟨e1, ef⟩
                      · refine Or.inr ⟨j, hj, (HF1.out _ ef).symm, by rw [← HFD.out, ef]; rfl, by unfold atQ; rw [e1, Nat.zero_add]⟩
                      · exact Or.inl ⟨by rw [← HFD.out, ef]; rfl, e1⟩
                    have hnn := HNE.out
                    have hp := HP1.out
                    rcases L2 with _ | ⟨x, tl⟩
                    · rcases ha with ⟨h1, h2⟩ | ⟨j, hj, _⟩
                      · exact Or.inl ⟨rfl, by rw [← hnn]; rfl, h1, h2⟩
                      · simp at hj
                    · exact Or.inr ⟨by simp, (hp _ _ rfl).symm, by rw [← hnn]; rfl, ha⟩
                  clear HNE HFD HP1 HF1
                  rcases hcase with ⟨hL2, rfl, rfl, hat2⟩ | ⟨hpos, hx0, rfl, ⟨rfl, hat2⟩ | ⟨j, hj, hxj, rfl, hat2⟩⟩
                  · as_aux_lemma =>
                      have HSS : Hid (∀ w' : World, St w w' (BaseHP T q b bf bp up L2 As n cs ⟨f1, f2, f3, f4, f5⟩ ⟨p1, p2, p3, p4, p5⟩) → (w'.cell? ⟨b, 1, none⟩ = some (.slice As n cs)) ∧ (w'.cell? ⟨bp, 0, none⟩ = some (.int .i64 p1) ∧ w'.cell? ⟨bp, 1, none⟩ = some (.int .i64 p2) ∧ w'.cell? ⟨bp, 2, none⟩ = some (.bool p3) ∧ w'.cell? ⟨bp, 3, none⟩ = some (.int .u64 p4) ∧ w'.cell? ⟨bp, 4, none⟩ = some (.int .u64 p5)) ∧ (w'.cell? ⟨bf, 0, none⟩ = some (.int .i64 f1) ∧ w'.cell? ⟨bf, 1, none⟩ = some (.int .i64 f2) ∧ w'.cell? ⟨bf, 2, none⟩ = some (.bool f3) ∧ w'.cell? ⟨bf, 3, none⟩ = some (.int .u64 f4) ∧ w'.cell? ⟨bf, 4, none⟩ = some (.int .u64 f5))) := Lib.hid fun w' h => by
                        obtain ⟨_, _, qf, _⟩ := h.snd.blk
                        obtain ⟨_, _, qp, _⟩ := h.snd.snd.blk
                        obtain ⟨_, _, qb, _⟩ := h.snd.snd.snd.blk
                        exact ⟨qb 1 _ rfl, ⟨qp 0 _ rfl, qp 1 _ rfl, qp 2 _ rfl, qp 3 _ rfl, qp 4 _ rfl⟩, ⟨qf 0 _ rfl, qf 1 _ rfl, qf 2 _ rfl, qf 3 _ rfl, qf 4 _ rfl⟩⟩
                      have HAT : Hid (∀ w' : World, St w w' (BaseHP T q b bf bp up L2 As n cs ⟨f1, f2, f3, f4, f5⟩ ⟨p1, p2, p3, p4, p5⟩) → Calls Try.prog 19 #[.pointer (some ⟨b, 0, none⟩), .int .i64 d] w' fun e w'' => e = .returned (.int .i64 (atQ d L2)) ∧ w'' = w') := Lib.hid fun w' h => by
                        obtain ⟨_, _, qb, _⟩ := h.snd.snd.snd.blk
                        have := rat_any (w := w') (b := b) (off := 0) d (qb 1 _ rfl) (row_n HLN.out h.snd.snd.snd.snd.rowN) HLN.out (by have := HNK.out; omega)
                        exact this
                      have hgt : ¬ 0 < n := by have := HLN.out; rw [hL2] at this; simp at this; omega
                      have hm : ¬ (0 : Int) ≤ atQ d L2 := by omega
                      refine pcmp_E T q b bf bp n cs up L2 As d (atQ d L2) f1 f2 f3 f4 f5 p1 p2 p3 p4 p5 w wB HSS HORD HAT HKL KA HLN (Lib.hid (by have := HNK.out; omega)) (Lib.hid HG2.out.ok) HB29 hgt hm _ _ _ _ _ _ _ _ _ _ _ _ _ _ _ _ _ _ _ _ _ _ _ _ _ _ _ _ _ _ _ _ _ _ _ _ _ _ _ _ _ _ _ _ _ _ _ _ _ _ _ _ _ _ _ _ _ _ _ _ _ _ _ _ _ _ _ _ _ _ _ _ _ _ _ _ _ _ _ _ _ _ _ _ _ _ _ _ _ _ _ _ _ _ _ _ _ _ _ _ _ _ _ _ _ _ _ _ _ _ _ _ _ _ _ _ _ _ _ _ _ _ _ _ _ _ _ _ _ _ _ _ _ _ _ _ _ _ _ _ _ _ _ _ _ _ _ _ _ _ _ _ _ _ _ _ _ _ _ _ _ _ _ _ _ _ _ _ _ _ _ _ _ _ _ _ _ _ _ _ _ _ _ _ _ _ _ _ _ _ _ _ _ _ _ _ _ _ _ _ _ _ _ _ _ _ _ _ _ _ _ _ _ _ _ _ _ _ _ _ _ _ _ _ _ _ _ ?_ ?_
                      · exact fun _ _ _ _ _ h => h
                      · intros
                        rename_i h
                        go_wp2_with fail
                        go_meet
                        exact ⟨rfl, two_of h⟩
                  · as_aux_lemma =>
                      obtain ⟨g, rfl, _⟩ := row_ord (row_n HLN.out HB29.out.snd.snd.snd.snd.rowN) hpos
                      have HSS : Hid (∀ w' : World, St w w' (BaseHP T q b bf bp up L2 (some ⟨g, 0, none⟩) n cs ⟨f1, f2, f3, f4, f5⟩ ⟨p1, p2, p3, p4, p5⟩) → (w'.cell? ⟨b, 1, none⟩ = some (.slice (some ⟨g, 0, none⟩) n cs)) ∧ (w'.cell? ⟨bp, 0, none⟩ = some (.int .i64 p1) ∧ w'.cell? ⟨bp, 1, none⟩ = some (.int .i64 p2) ∧ w'.cell? ⟨bp, 2, none⟩ = some (.bool p3) ∧ w'.cell? ⟨bp, 3, none⟩ = some (.int .u64 p4) ∧ w'.cell? ⟨bp, 4, none⟩ = some (.int .u64 p5)) ∧ (w'.cell? ⟨bf, 0, none⟩ = some (.int .i64 f1) ∧ w'.cell? ⟨bf, 1, none⟩ = some (.int .i64 f2) ∧ w'.cell? ⟨bf, 2, none⟩ = some (.bool f3) ∧ w'.cell? ⟨bf, 3, none⟩ = some (.int .u64 f4) ∧ w'.cell? ⟨bf, 4, none⟩ = some (.int .u64 f5)) ∧ (w'.cell? ⟨g, 0, none⟩ = some (.int .i64 p1) ∧ w'.cell? ⟨g, 1, none⟩ = some (.int .i64 p2) ∧ w'.cell? ⟨g, 2, none⟩ = some (.bool p3) ∧ w'.cell? ⟨g, 3, none⟩ = some (.int .u64 p4) ∧ w'.cell? ⟨g, 4, none⟩ = some (.int .u64 p5))) := Lib.hid fun w' h => by
                        obtain ⟨_, _, qf, _⟩ := h.snd.blk
                        obtain ⟨_, _, qp, _⟩ := h.snd.snd.blk
                        obtain ⟨_, _, qb, _⟩ := h.snd.snd.snd.blk
                        obtain ⟨g', e, _, r0, r1, r2, r3, r4⟩ := row_ord (row_n HLN.out h.snd.snd.snd.snd.rowN) hpos
                        injection e with e; injection e with e _ _; subst e
                        rw [hx0] at r0 r1 r2 r3 r4
                        simp only [Nat.zero_mul, Nat.zero_add] at r0 r1 r2 r3 r4
                        exact ⟨qb 1 _ rfl, ⟨qp 0 _ rfl, qp 1 _ rfl, qp 2 _ rfl, qp 3 _ rfl, qp 4 _ rfl⟩, ⟨qf 0 _ rfl, qf 1 _ rfl, qf 2 _ rfl, qf 3 _ rfl, qf 4 _ rfl⟩, ⟨r0, r1, r2, r3, r4⟩⟩
                      have HAT : Hid (∀ w' : World, St w w' (BaseHP T q b bf bp up L2 (some ⟨g, 0, none⟩) n cs ⟨f1, f2, f3, f4, f5⟩ ⟨p1, p2, p3, p4, p5⟩) → Calls Try.prog 19 #[.pointer (some ⟨b, 0, none⟩), .int .i64 d] w' fun e w'' => e = .returned (.int .i64 (atQ d L2)) ∧ w'' = w') := Lib.hid fun w' h => by
                        obtain ⟨_, _, qb, _⟩ := h.snd.snd.snd.blk
                        have := rat_any (w := w') (b := b) (off := 0) d (qb 1 _ rfl) (row_n HLN.out h.snd.snd.snd.snd.rowN) HLN.out (by have := HNK.out; omega)
                        exact this
                      have hneP : ∀ w' : World, (binOp .neq 28 (.agg #[.int .i64 p1, .int .i64 p2, .bool p3, .int .u64 p4, .int .u64 p5]) (.agg #[.int .i64 p1, .int .i64 p2, .bool p3, .int .u64 p4, .int .u64 p5])).run Try.prog w' = .ok (.bool false) w' := fun w' => by
                        have hok := HG2.out.ok _ (List.getElem_mem hpos)
                        rw [hx0] at hok
                        have := neq_ord hok hok w'
                        rw [decide_eq_true rfl] at this
                        exact this
                      have hgt : 0 < n := by have := HLN.out; omega
                      have hm : ¬ (0 : Int) ≤ atQ d L2 := by omega
                      refine pcmp_N T q b bf bp n cs g up L2 d (atQ d L2) f1 f2 f3 f4 f5 p1 p2 p3 p4 p5 w wB HSS HORD HAT HKL KA HLN (Lib.hid (by have := HNK.out; omega)) (Lib.hid HG2.out.ok) HB29 hneP hgt hm _ _ _ _ _ _ _ _ _ _ _ _ _ _ _ _ _ _ _ _ _ _ _ _ _ _ _ _ _ _ _ _ _ _ _ _ _ _ _ _ _ _ _ _ _ _ _ _ _ _ _ _ _ _ _ _ _ _ _ _ _ _ _ _ _ _ _ _ _ _ _ _ _ _ _ _ _ _ _ _ _ _ _ _ _ _ _ _ _ _ _ _ _ _ _ _ _ _ _ _ _ _ _ _ _ _ _ _ _ _ _ _ _ _ _ _ _ _ _ _ _ _ _ _ _ _ _ _ _ _ _ _ _ _ _ _ _ _ _ _ _ _ _ _ _ _ _ _ _ _ _ _ _ _ _ _ _ _ _ _ _ _ _ _ _ _ _ _ _ _ _ _ _ _ _ _ _ _ _ _ _ _ _ _ _ _ _ _ _ _ _ _ _ _ _ _ _ _ _ _ _ _ _ _ _ _ _ _ _ _ _ _ _ _ _ _ _ _ _ _ _ _ _ _ _ _ _ ?_ ?_
                      · exact fun _ _ _ _ _ h => h
                      · intros
                        rename_i h
                        go_wp2_with fail
                        go_meet
                        exact ⟨rfl, two_of h⟩
                  · as_aux_lemma =>
                      obtain ⟨g, rfl, _⟩ := row_ord (row_n HLN.out HB29.out.snd.snd.snd.snd.rowN) hpos
                      have HSS : Hid (∀ w' : World, St w w' (BaseHP T q b bf bp up L2 (some ⟨g, 0, none⟩) n cs ⟨f1, f2, f3, f4, f5⟩ ⟨p1, p2, p3, p4, p5⟩) → (w'.cell? ⟨b, 1, none⟩ = some (.slice (some ⟨g, 0, none⟩) n cs)) ∧ (w'.cell? ⟨bp, 0, none⟩ = some (.int .i64 p1) ∧ w'.cell? ⟨bp, 1, none⟩ = some (.int .i64 p2) ∧ w'.cell? ⟨bp, 2, none⟩ = some (.bool p3) ∧ w'.cell? ⟨bp, 3, none⟩ = some (.int .u64 p4) ∧ w'.cell? ⟨bp, 4, none⟩ = some (.int .u64 p5)) ∧ (w'.cell? ⟨bf, 0, none⟩ = some (.int .i64 f1) ∧ w'.cell? ⟨bf, 1, none⟩ = some (.int .i64 f2) ∧ w'.cell? ⟨bf, 2, none⟩ = some (.bool f3) ∧ w'.cell? ⟨bf, 3, none⟩ = some (.int .u64 f4) ∧ w'.cell? ⟨bf, 4, none⟩ = some (.int .u64 f5)) ∧ (w'.cell? ⟨g, 0, none⟩ = some (.int .i64 p1) ∧ w'.cell? ⟨g, 1, none⟩ = some (.int .i64 p2) ∧ w'.cell? ⟨g, 2, none⟩ = some (.bool p3) ∧ w'.cell? ⟨g, 3, none⟩ = some (.int .u64 p4) ∧ w'.cell? ⟨g, 4, none⟩ = some (.int .u64 p5)) ∧ (w'.cell? ⟨g, j * 5, none⟩ = some (.int .i64 f1) ∧ w'.cell? ⟨g, j * 5 + 1, none⟩ = some (.int .i64 f2) ∧ w'.cell? ⟨g, j * 5 + 2, none⟩ = some (.bool f3) ∧ w'.cell? ⟨g, j * 5 + 3, none⟩ = some (.int .u64 f4) ∧ w'.cell? ⟨g, j * 5 + 4, none⟩ = some (.int .u64 f5))) := Lib.hid fun w' h => by
                        obtain ⟨_, _, qf, _⟩ := h.snd.blk
                        obtain ⟨_, _, qp, _⟩ := h.snd.snd.blk
                        obtain ⟨_, _, qb, _⟩ := h.snd.snd.snd.blk
                        obtain ⟨g', e, _, r0, r1, r2, r3, r4⟩ := row_ord (row_n HLN.out h.snd.snd.snd.snd.rowN) hpos
                        injection e with e; injection e with e _ _; subst e
                        rw [hx0] at r0 r1 r2 r3 r4
                        simp only [Nat.zero_mul, Nat.zero_add] at r0 r1 r2 r3 r4
                        obtain ⟨g', e, _, t0, t1, t2, t3, t4⟩ := row_ord (row_n HLN.out h.snd.snd.snd.snd.rowN) hj
                        injection e with e; injection e with e _ _; subst e
                        rw [hxj] at t0 t1 t2 t3 t4
                        exact ⟨qb 1 _ rfl, ⟨qp 0 _ rfl, qp 1 _ rfl, qp 2 _ rfl, qp 3 _ rfl, qp 4 _ rfl⟩, ⟨qf 0 _ rfl, qf 1 _ rfl, qf 2 _ rfl, qf 3 _ rfl, qf 4 _ rfl⟩, ⟨r0, r1, r2, r3, r4⟩, ⟨t0, t1, t2, t3, t4⟩⟩
                      have HAT : Hid (∀ w' : World, St w w' (BaseHP T q b bf bp up L2 (some ⟨g, 0, none⟩) n cs ⟨f1, f2, f3, f4, f5⟩ ⟨p1, p2, p3, p4, p5⟩) → Calls Try.prog 19 #[.pointer (some ⟨b, 0, none⟩), .int .i64 d] w' fun e w'' => e = .returned (.int .i64 ((j : Nat) : Int)) ∧ w'' = w') := Lib.hid fun w' h => by
                        obtain ⟨_, _, qb, _⟩ := h.snd.snd.snd.blk
                        have := rat_any (w := w') (b := b) (off := 0) d (qb 1 _ rfl) (row_n HLN.out h.snd.snd.snd.snd.rowN) HLN.out (by have := HNK.out; omega)
                        rw [hat2] at this
                        exact this
                      have hneP : ∀ w' : World, (binOp .neq 28 (.agg #[.int .i64 p1, .int .i64 p2, .bool p3, .int .u64 p4, .int .u64 p5]) (.agg #[.int .i64 p1, .int .i64 p2, .bool p3, .int .u64 p4, .int .u64 p5])).run Try.prog w' = .ok (.bool false) w' := fun w' => by
                        have hok := HG2.out.ok _ (List.getElem_mem hpos)
                        rw [hx0] at hok
                        have := neq_ord hok hok w'
                        rw [decide_eq_true rfl] at this
                        exact this
                      have hneF : ∀ w' : World, (binOp .neq 28 (.agg #[.int .i64 f1, .int .i64 f2, .bool f3, .int .u64 f4, .int .u64 f5]) (.agg #[.int .i64 f1, .int .i64 f2, .bool f3, .int .u64 f4, .int .u64 f5])).run Try.prog w' = .ok (.bool false) w' := fun w' => by
                        have hok := HG2.out.ok _ (List.getElem_mem hj)
                        rw [hxj] at hok
                        have := neq_ord hok hok w'
                        rw [decide_eq_true rfl] at this
                        exact this
                      have hgt : 0 < n := by have := HLN.out; omega
                      have hgj : (0 : Int) ≤ ((j : Nat) : Int) := by omega
                      have hgt2 : (0 : Int) < ((n : Nat) : Int) := by omega
                      have hgj3 : ((j : Nat) : Int) < ((n : Nat) : Int) := by have := HLN.out; omega
                      refine pcmp_F T q b bf bp n cs g j up L2 d f1 f2 f3 f4 f5 p1 p2 p3 p4 p5 w wB HSS HORD HAT HKL KA HLN (Lib.hid (by have := HNK.out; omega)) (Lib.hid HG2.out.ok) HB29 hneP hgt hneF hgj hgj3 _ _ _ _ _ _ _ _ _ _ _ _ _ _ _ _ _ _ _ _ _ _ _ _ _ _ _ _ _ _ _ _ _ _ _ _ _ _ _ _ _ _ _ _ _ _ _ _ _ _ _ _ _ _ _ _ _ _ _ _ _ _ _ _ _ _ _ _ _ _ _ _ _ _ _ _ _ _ _ _ _ _ _ _ _ _ _ _ _ _ _ _ _ _ _ _ _ _ _ _ _ _ _ _ _ _ _ _ _ _ _ _ _ _ _ _ _ _ _ _ _ _ _ _ _ _ _ _ _ _ _ _ _ _ _ _ _ _ _ _ _ _ _ _ _ _ _ _ _ _ _ _ _ _ _ _ _ _ _ _ _ _ _ _ _ _ _ _ _ _ _ _ _ _ _ _ _ _ _ _ _ _ _ _ _ _ _ _ _ _ _ _ _ _ _ _ _ _ _ _ _ _ _ _ _ _ _ _ _ _ _ _ _ _ _ _ _ _ _ _ _ _ _ _ _ _ _ ?_ ?_
                      · exact fun _ _ _ _ _ h => h
                      · intros
                        rename_i h
                        go_wp2_with fail
                        go_meet
                        exact ⟨rfl, two_of h⟩
                case rest =>
                  obtain ⟨rfl, hst⟩ := hcut
                  have H12 := Lib.hid hst
                  clear hst HB29 HP1 HF1 HNE HFD
                  go_wp2_with fail
                  go_roundw
                  case rel => exact ⟨k + 1, by omega, by omega, by go_num, L2, _, HG2.out, by have := HNK.out; have := HLN.out; omega, H12.out⟩
                  case measure => simp [intOf]; omega
      · have HAT := Lib.hid hat
        have hge : k = np ∨ (k < np ∧ k = 60) := by omega
        clear hgo hat
        rcases hge with rfl | ⟨hlt, rfl⟩
        all_goals
          go_wp2_with fail
          go_meet
          obtain ⟨L, s, h1, h2, h3⟩ := HAT.out
          exact ⟨L, s, h1, by omega, h3⟩
  case rest =>
    obtain ⟨L, s, _, _, hst⟩ := hcut
    have HB := Lib.hid hst.below
    have hsz := hst.size
    have HSZ := Lib.hid hsz
    clear hst hsz HS
    go_wp2_with fail
    refine (pawake_any T _).mono ?_
    rintro e w8 ⟨rfl, hb8⟩
    have HB8 := Lib.hid hb8
    clear hb8
    go_wp2_with fail
    go_ret
    exact ⟨rfl, HB.out.trans (HB8.out.mono HSZ.out)⟩
end Go.Proofs.Ytkbebllkjmccoaa
