/- The document's own fees: Hold. Conditions: they lie in memory; good numbers. -/
import Derived.Test.YtnicfhafepiknaaHoldRef
import Derived.Deep.CutBlock
import Derived.Deep.DeepCutAuto
import Derived.RegionTactic
import Derived.Deep.RegionWith
namespace Go.Proofs.Ytnicfhafepiknaa
open Go.RowKit Go.WideShapes

section
variable {F0 : Nat → Prop} {w0 w : World} {b ab : Nat} {sh : Value} {H : List Int} {g : Int} {R : HP}
/-- What the walk wants of the document's fees. -/
theorem Turns.fee (h : Turns F0 w0 w (star (FeeAt b ab sh H g) R)) : w.cell? ⟨b, 0, none⟩ = some (.pointer (some ⟨ab, 0, none⟩)) ∧ w.cell? ⟨b, 1, none⟩ = some sh ∧ w.cell? ⟨b, 2, none⟩ = some (.int .u64 g) ∧ w.frozen? ⟨b, 2, none⟩ = false ∧ w.ownsRow 0 26 1 sh H.length (cellsU H) := by
  obtain ⟨_, _, hc, hf⟩ := h.assoc.blk
  exact ⟨hc 0 _ rfl, hc 1 _ rfl, hc 2 _ rfl, hf 2, h.assoc.swap.rowN⟩
theorem Turns.fee_held [hR : Stable R] {gb cap n : Nat} (h : Turns F0 w0 w (star (FeeAt b ab (.slice (some ⟨gb, 0, none⟩) n cap) H g) R)) (hn : H.length = n) (j : Nat) (v : Int) :
    Turns F0 w0 (w.setCell ⟨gb, j, none⟩ (.int .u64 v)) (star (FeeAt b ab (.slice (some ⟨gb, 0, none⟩) n cap) (H.set j v) g) R) := by
  subst hn
  have h1 := h.assoc.swap.rowN_set j (.int .u64 v)
  rw [cellsU_set] at h1
  have h2 := h1.swap.assoc'
  unfold FeeAt
  rw [List.length_set]
  exact h2
theorem Turns.fee_got [hR : Stable R] (h : Turns F0 w0 w (star (FeeAt b ab sh H g) R)) (v : Int) :
    Turns F0 w0 (w.setCell ⟨b, 2, none⟩ (.int .u64 v)) (star (FeeAt b ab sh H v) R) :=
  (h.assoc.blk_set 2 (.int .u64 v)).assoc'
theorem Turns.rof (h : Turns F0 w0 w (star (FeeAt b ab sh H g) R)) (c : Int) :
    Calls Try.prog 33 #[.pointer (some ⟨b, 0, none⟩), .int .i64 c] w fun e w' => e = .returned (.int .u64 (hOf H c)) ∧ w' = w := by
  obtain ⟨F, ⟨A, B, hp, _⟩, _⟩ := h
  exact rof_any c hp
end

theorem hSet_nat (H : List Int) (j : Nat) (v : Int) : hSet H (j : Int) v = H.set j v := by simp [hSet]
set_option maxRecDepth 100000 in
set_option maxHeartbeats 8000000 in
theorem rhold_any {F0 : Nat → Prop} {w0 w : World} {b ab : Nat} {sh s : Value} {X : Accts} {H : List Int} {g : Int} {R : HP} [hR : Stable R] (c fee : Int) (h : Turns F0 w0 w (star (FeeAt b ab sh H g) (star (AccAt ab s X) R))) (hg : GoodF X H g) (hf : U64 fee) :
    Calls Try.prog 32 #[.pointer (some ⟨b, 0, none⟩), .int .i64 c, .int .u64 fee] w fun e w' => e = .returned (.int .u64 (holdN X H c fee)) ∧ Turns F0 w0 w' (star (FeeAt b ab sh (holdH X H c fee) g) (star (AccAt ab s (holdX X H c fee)) R)) := by
  obtain ⟨c0, c1, _, _, hs⟩ := h.fee
  have KF := h.swap.rfree c 1
  have KO := h.rof c
  have hfr := free_u64 hg.ga c 1
  have hhd := hOf_u64 hg.gh c
  obtain ⟨fr, efr⟩ : ∃ x, freeA X c 1 = x := ⟨_, rfl⟩
  obtain ⟨hd, ehd⟩ : ∃ x, hOf H c = x := ⟨_, rfl⟩
  obtain ⟨m, em⟩ : ∃ x, min fee fr = x := ⟨_, rfl⟩
  have hm1 : (if fr < fee then fr else fee) = m := by rw [← em]; split <;> omega
  rw [efr] at KF hfr; rw [ehd] at KO hhd
  have KA := radd6_any (w := w) (a := hd) (b := m) hhd ⟨by omega, by omega⟩
  have hN : holdN X H c fee = if 18446744073709551616 ≤ hd + m then 0 else m := by unfold holdN; rw [ehd, efr, em]
  have HKF := Lib.hid KF; have HKO := Lib.hid KO; have HH := Lib.hid h
  by_cases hov : hd + m < 18446744073709551616
  · rw [if_pos hov, decide_eq_true hov] at KA
    rw [if_neg (by omega)] at hN
    have HKA := Lib.hid KA
    by_cases hm0 : m = 0
    · have hN0 : holdN X H c fee = 0 := by rw [hN, hm0]
      unfold holdX holdH
      simp only [hN0, if_pos]
      clear KF KO KA h hg hf hfr hhd efr ehd em hN hN0 hov hs
      subst hm0
      go_enter Try.func32, Try.ntmps32
      go_wp2_with fail
      refine HKF.out.mono ?_
      rintro e w2 ⟨rfl, rfl⟩
      go_wp2_with fail
      refine HKO.out.mono ?_
      rintro e w2 ⟨rfl, rfl⟩
      go_wp2_with fail
      refine HKA.out.mono ?_
      rintro e w2 ⟨rfl, rfl⟩
      go_wp2_with fail
      go_ret
      exact ⟨rfl, HH.out⟩
    · have hNn : holdN X H c fee ≠ 0 := by rw [hN]; exact hm0
      obtain ⟨e1, e2⟩ := holdN_ok hg hf hNn
      unfold holdX holdH
      simp only [if_neg hNn]
      rw [hN, ehd]
      obtain ⟨j, rfl⟩ : ∃ j : Nat, c = j := ⟨c.toNat, by omega⟩
      rw [hSet_nat]
      have hj : j < H.length := by omega
      have KT := h.swap.rtake j 1 m hg.ga ⟨by omega, by omega⟩
      rw [hOf_nat hj] at ehd
      obtain ⟨gb, cap, rfl, d0, _⟩ := fee_cells hs hj
      rw [ehd] at d0
      have hwr : IntKind.u64.wrap (hd + m) = hd + m := IntWalk.u64_in _ (by omega)
      have b1 : (m == 0) = false := beq_eq_false_iff_ne.2 hm0
      have HKT := Lib.hid KT; have HJ := Lib.hid hj; have HEH := Lib.hid ehd
      obtain ⟨n, hn⟩ : ∃ n, H.length = n := ⟨_, rfl⟩
      have HN := Lib.hid hn
      rw [hn] at c1 hj hs
      have HF := Lib.hid (fun (w2 : World) (h2 : Turns F0 w0 w2 (star (AccAt ab s (takeX X j 1 m)) (star (FeeAt b ab (.slice (some ⟨gb, 0, none⟩) H.length cap) H g) R))) => h2.swap.fee)
      rw [hn] at HF HKT ⊢
      have hcell : Hid (∀ w2 : World, w2.ownsRow 0 26 1 (.slice (some ⟨gb, 0, none⟩) n cap) n (cellsU H) → w2.cell? ⟨gb, j, none⟩ = some (.int .u64 hd) ∧ w2.frozen? ⟨gb, j, none⟩ = false) := Lib.hid fun w2 h2 => by
        rw [← HN.out] at h2
        obtain ⟨g2, cap2, e, q0, q1⟩ := fee_cells h2 HJ.out
        injection e with e _ _
        injection e with e
        injection e with e
        subst e
        exact ⟨by rw [q0, HEH.out], q1 j⟩
      clear KF KO KA KT h hg hf hfr hhd efr ehd em hN hNn hov hs hm0 e1 e2 d0 HH hn
      go_enter Try.func32, Try.ntmps32
      go_wp2_with fail
      refine HKF.out.mono ?_
      rintro e w2 ⟨rfl, rfl⟩
      go_wp2_with fail
      refine HKO.out.mono ?_
      rintro e w2 ⟨rfl, rfl⟩
      go_wp2_with fail
      refine HKA.out.mono ?_
      rintro e w2 ⟨rfl, rfl⟩
      go_wp2_with fail
      refine HKT.out.mono ?_
      rintro e w3 ⟨rfl, h3⟩
      obtain ⟨q0, q1, _, _, q4⟩ := HF.out w3 h3
      obtain ⟨r0, r1⟩ := hcell.out w3 q4
      have H3 := Lib.hid h3
      clear h3 q4 c0 c1 HF HKT HKF HKO HKA q0
      go_wp2_with fail
      go_region_with fail
      all_goals
        go_wp2_with fail
        go_ret
        refine ⟨rfl, ?_⟩
        exact (H3.out.swap.fee_held HN.out j (hd + m)).drew
  · rw [if_neg hov, decide_eq_false hov] at KA
    rw [if_pos (by omega)] at hN
    have HKA := Lib.hid KA
    unfold holdX holdH
    simp only [hN, if_pos]
    clear KF KO KA h hg hf hfr hhd efr ehd em hN hov hs
    go_enter Try.func32, Try.ntmps32
    go_wp2_with fail
    refine HKF.out.mono ?_
    rintro e w2 ⟨rfl, rfl⟩
    go_wp2_with fail
    refine HKO.out.mono ?_
    rintro e w2 ⟨rfl, rfl⟩
    go_wp2_with fail
    refine HKA.out.mono ?_
    rintro e w2 ⟨rfl, rfl⟩
    go_wp2_with fail
    go_ret
    exact ⟨rfl, HH.out⟩
end Go.Proofs.Ytnicfhafepiknaa
