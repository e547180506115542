/- prio's comparison of two orders: cmp.Compare, cmp.Or, compare. Conditions: the queue's cell says whether it is up. -/
import Derived.Test.YtkbebllkjmccoaaSortSwap
namespace Go.Proofs.Ytkbebllkjmccoaa
open Go.RowKit Go.WideShapes

/-- What cmp.Compare answers. -/
def cmpI (x y : Int) : Int := if x < y then -1 else if y < x then 1 else 0
theorem cmp_u64 (w : World) (x y : Int) : Calls Try.prog 34 #[.int .u64 x, .int .u64 y] w fun e w' => e = .returned (.int .i64 (cmpI x y)) ∧ w' = w := by
  have N : ∀ (w : World) (x : Int), Calls Try.prog 42 #[.int .u64 x] w fun e w' => e = .returned (.bool false) ∧ w' = w := fun w x => by
    go_enter Try.func42, Try.ntmps42
    go_wp2_with fail
    go_ret
    exact ⟨by simp, rfl⟩
  have N1 := Lib.hid (N w x)
  have N2 := Lib.hid (N w y)
  clear N
  obtain ⟨c, hc⟩ : ∃ c, cmpI x y = c := ⟨_, rfl⟩
  rw [hc]
  unfold cmpI at hc
  go_enter Try.func34, Try.ntmps34
  by_cases h1 : x < y
  · rw [if_pos h1] at hc
    subst hc
    go_wp2_with fail
    refine N1.out.mono ?_
    rintro e w2 ⟨rfl, rfl⟩
    go_wp2_with fail
    refine N2.out.mono ?_
    rintro e w3 ⟨rfl, rfl⟩
    go_wp2_with fail
    go_ret
    exact ⟨rfl, rfl⟩
  · rw [if_neg h1] at hc
    by_cases h2 : y < x
    · rw [if_pos h2] at hc
      subst hc
      go_wp2_with fail
      refine N1.out.mono ?_
      rintro e w2 ⟨rfl, rfl⟩
      go_wp2_with fail
      refine N2.out.mono ?_
      rintro e w3 ⟨rfl, rfl⟩
      go_wp2_with fail
      go_ret
      exact ⟨rfl, rfl⟩
    · rw [if_neg h2] at hc
      subst hc
      go_wp2_with fail
      refine N1.out.mono ?_
      rintro e w2 ⟨rfl, rfl⟩
      go_wp2_with fail
      refine N2.out.mono ?_
      rintro e w3 ⟨rfl, rfl⟩
      go_wp2_with fail
      go_ret
      exact ⟨rfl, rfl⟩
theorem cmp_i64 (w : World) (x y : Int) : Calls Try.prog 36 #[.int .i64 x, .int .i64 y] w fun e w' => e = .returned (.int .i64 (cmpI x y)) ∧ w' = w := by
  have N : ∀ (w : World) (x : Int), Calls Try.prog 43 #[.int .i64 x] w fun e w' => e = .returned (.bool false) ∧ w' = w := fun w x => by
    go_enter Try.func43, Try.ntmps43
    go_wp2_with fail
    go_ret
    exact ⟨by simp, rfl⟩
  have N1 := Lib.hid (N w x)
  have N2 := Lib.hid (N w y)
  clear N
  obtain ⟨c, hc⟩ : ∃ c, cmpI x y = c := ⟨_, rfl⟩
  rw [hc]
  unfold cmpI at hc
  go_enter Try.func36, Try.ntmps36
  by_cases h1 : x < y
  · rw [if_pos h1] at hc
    subst hc
    go_wp2_with fail
    refine N1.out.mono ?_
    rintro e w2 ⟨rfl, rfl⟩
    go_wp2_with fail
    refine N2.out.mono ?_
    rintro e w3 ⟨rfl, rfl⟩
    go_wp2_with fail
    go_ret
    exact ⟨rfl, rfl⟩
  · rw [if_neg h1] at hc
    by_cases h2 : y < x
    · rw [if_pos h2] at hc
      subst hc
      go_wp2_with fail
      refine N1.out.mono ?_
      rintro e w2 ⟨rfl, rfl⟩
      go_wp2_with fail
      refine N2.out.mono ?_
      rintro e w3 ⟨rfl, rfl⟩
      go_wp2_with fail
      go_ret
      exact ⟨rfl, rfl⟩
    · rw [if_neg h2] at hc
      subst hc
      go_wp2_with fail
      refine N1.out.mono ?_
      rintro e w2 ⟨rfl, rfl⟩
      go_wp2_with fail
      refine N2.out.mono ?_
      rintro e w3 ⟨rfl, rfl⟩
      go_wp2_with fail
      go_ret
      exact ⟨rfl, rfl⟩
/-- cmp.Or of two. -/
theorem or_two (w : World) (g : Nat) (x y : Int) (h0 : w.cell? ⟨g, 0, none⟩ = some (.int .i64 x)) (h1 : w.cell? ⟨g, 1, none⟩ = some (.int .i64 y)) :
    Calls Try.prog 35 #[.slice (some ⟨g, 0, none⟩) 2 2] w fun e w' => e = .returned (.int .i64 (if x = 0 then y else x)) ∧ w' = w := by
  obtain ⟨c, hc⟩ : ∃ c, (if x = 0 then y else x) = c := ⟨_, rfl⟩
  rw [hc]
  have HC := Lib.hid hc
  clear hc
  go_enter Try.func35, Try.ntmps35
  go_wp2_with fail
  go_loopw [8] (fun kv wr => ∃ k : Nat, kv = .int .i64 k ∧ (k = 0 ∨ (k = 1 ∧ x = 0) ∨ (k = 2 ∧ x = 0 ∧ y = 0)) ∧ wr = w) (fun kv _ => 2 - (intOf kv).toNat)
  case atStart => exact ⟨0, rfl, Or.inl rfl, rfl⟩
  case round =>
    obtain ⟨k, rfl, hk, rfl⟩ := hrel
    rcases hk with rfl | ⟨rfl, hx⟩ | ⟨rfl, hx, hy⟩
    · by_cases hx : x = 0
      · subst hx
        go_wp2_with fail
        go_roundw
        case rel => exact ⟨1, by first | rfl | simp, by simp, by trivial⟩
        case measure => simp [intOf]
      · go_wp2_with fail
        go_ret
        refine ⟨?_, rfl⟩
        rw [← HC.out, if_neg hx]
        rfl
    · by_cases hy : y = 0
      · subst hy
        have HX := Lib.hid hx
        clear hx
        go_wp2_with fail
        go_roundw
        case rel => exact ⟨2, by first | rfl | simp, by simp [HX.out], by trivial⟩
        case measure => simp [intOf]
      · go_wp2_with fail
        go_ret
        refine ⟨?_, rfl⟩
        rw [← HC.out, if_pos hx]
        rfl
    · go_wp2_with fail
      go_ret
      refine ⟨?_, rfl⟩
      rw [← HC.out, if_pos hx, hy]
      rfl

theorem cmp_ahead (up : Bool) (x y : OrdV) (p : Int) (hp : (if up then cmpI x.price y.price else IntKind.i64.wrap (-(cmpI x.price y.price))) = p) : decide ((if p = 0 then cmpI x.id y.id else p) < 0) = aheadO up x y := by
  have e1 : IntKind.i64.wrap (-1 : Int) = -1 := by decide
  have e2 : IntKind.i64.wrap (1 : Int) = 1 := by decide
  have e3 : IntKind.i64.wrap (0 : Int) = 0 := by decide
  subst hp
  unfold aheadO cmpI
  cases up
  all_goals
    by_cases h1 : x.price < y.price
    · have h2 : ¬ x.price = y.price := by omega
      simp [*]
    · by_cases h2 : y.price < x.price
      · have h3 : ¬ x.price = y.price := by omega
        simp [*]
      · have h3 : x.price = y.price := by omega
        by_cases h4 : x.id < y.id
        · simp [*]
        · by_cases h5 : y.id < x.id
          · simp [*]
          · simp [*]
set_option maxRecDepth 100000 in
set_option maxHeartbeats 4000000 in
theorem compare_any {w : World} {b : Nat} {up : Bool} (x y : OrdV) (hb : b < w.heap.size) (hc : w.cell? ⟨b, 0, none⟩ = some (.bool up)) :
    Calls Try.prog 28 #[.pointer (some ⟨b, 0, none⟩), x.val, y.val] w fun e w' => ∃ c : Int, e = .returned (.int .i64 c) ∧ decide (c < 0) = aheadO up x y ∧ Below w.heap.size w w' := by
  obtain ⟨p, hp⟩ : ∃ p, (if up then cmpI x.price y.price else IntKind.i64.wrap (-(cmpI x.price y.price))) = p := ⟨_, rfl⟩
  have HA := Lib.hid (cmp_ahead up x y p hp)
  obtain ⟨a1, a2, a3, a4, a5⟩ := x
  obtain ⟨b1, b2, b3, b4, b5⟩ := y
  have h1 := (St.start w w (Below.refl _ _)).local5 #[.int .i64 a1, .int .i64 a2, .bool a3, .int .u64 a4, .int .u64 a5] 28
  obtain ⟨ba, hba, h1⟩ := h1
  obtain ⟨bb, hbb, h2⟩ := h1.local5 #[.int .i64 b1, .int .i64 b2, .bool b3, .int .u64 b4, .int .u64 b5] 28
  obtain ⟨_, _, q2, _⟩ := h2.blk
  obtain ⟨_, _, q1, _⟩ := h2.swap.blk
  have x0 := q1 0 (.int .i64 a1) rfl
  have x3 := q1 3 (.int .u64 a4) rfl
  have y0 := q2 0 (.int .i64 b1) rfl
  have y3 := q2 3 (.int .u64 b4) rfl
  have hbw := h2.below
  have c0 := (hbw.cell (p := ⟨b, 0, none⟩) hb).trans hc
  have HB := Lib.hid hbw
  subst hba
  subst hbb
  simp only [OrdV.val]
  simp only at hp
  obtain ⟨u, hu⟩ : ∃ u, cmpI a4 b4 = u := ⟨_, rfl⟩
  obtain ⟨v, hv⟩ : ∃ v, cmpI a1 b1 = v := ⟨_, rfl⟩
  rw [hu] at hp
  simp only [hv] at HA
  obtain ⟨c, hcc⟩ : ∃ c, (if p = 0 then v else p) = c := ⟨_, rfl⟩
  rw [hcc] at HA
  have K1 := fun w => cmp_u64 w a4 b4
  have K2 := fun w => cmp_i64 w a1 b1
  rw [hu] at K1
  rw [hv] at K2
  have K1 := Lib.hid K1; have K2 := Lib.hid K2
  have K3 := fun (W : World) => or_two (W.alloc (.cells #[.int .i64 p, .int .i64 v] 3)) W.heap.size p v (by simp) (by simp)
  have K3 := K3 ((w.alloc (.cells #[.int .i64 a1, .int .i64 a2, .bool a3, .int .u64 a4, .int .u64 a5] 28)).alloc (.cells #[.int .i64 b1, .int .i64 b2, .bool b3, .int .u64 b4, .int .u64 b5] 28))
  simp only [World.size_alloc] at K3
  rw [hcc] at K3
  have K3 := Lib.hid K3
  clear h1 h2 q1 q2 hu hv hbw hcc
  go_enter Try.func28, Try.ntmps28
  go_wp2_with fail
  refine (K1.out _).mono ?_
  rintro e w2 ⟨rfl, rfl⟩
  cases up
  · simp only [Bool.false_eq_true, if_false] at hp
    go_wp2_with fail
    refine (K2.out _).mono ?_
    rintro e w2 ⟨rfl, rfl⟩
    go_wp2_with fail
    refine K3.out.mono ?_
    rintro e w2 ⟨rfl, rfl⟩
    go_wp2_with fail
    go_ret
    exact ⟨_, rfl, HA.out, HB.out.alloc HB.out.size _⟩
  · simp only [if_true] at hp
    subst hp
    go_wp2_with fail
    refine (K2.out _).mono ?_
    rintro e w2 ⟨rfl, rfl⟩
    go_wp2_with fail
    refine K3.out.mono ?_
    rintro e w2 ⟨rfl, rfl⟩
    go_wp2_with fail
    go_ret
    exact ⟨_, rfl, HA.out, HB.out.alloc HB.out.size _⟩
end Go.Proofs.Ytkbebllkjmccoaa
