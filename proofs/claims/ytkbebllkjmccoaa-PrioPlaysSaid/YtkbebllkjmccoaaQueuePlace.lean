/- prio's Queue: place (by slices.IndexFunc). Conditions: its orders lie in memory; at most a hundred thousand. -/
import Derived.Test.YtkbebllkjmccoaaQueueTake
namespace Go.Proofs.Ytkbebllkjmccoaa
open Go.RowKit Go.WideShapes

theorem place_is (w : World) (o : OrdV) (bi : Nat) (id : Int) (hb : bi < w.heap.size) (hc : w.cell? ⟨bi, 0, none⟩ = some (.int .i64 id)) :
    Calls Try.prog 38 #[o.val, .pointer (some ⟨bi, 0, none⟩)] w fun e w' => e = .returned (.bool (isId id o)) ∧ Below w.heap.size w w' := by
  obtain ⟨a1, a2, a3, a4, a5⟩ := o
  obtain ⟨ba, hba, h1⟩ := (St.start w w (Below.refl _ _)).local5 #[.int .i64 a1, .int .i64 a2, .bool a3, .int .u64 a4, .int .u64 a5] 28
  obtain ⟨_, _, q1, _⟩ := h1.blk
  have x0 := q1 0 (.int .i64 a1) rfl
  have c0 := (h1.below.cell (p := ⟨bi, 0, none⟩) hb).trans hc
  have HB := Lib.hid h1.below
  subst hba
  obtain ⟨v, hv⟩ : ∃ v, isId id ⟨a1, a2, a3, a4, a5⟩ = v := ⟨_, rfl⟩
  rw [hv]
  unfold isId at hv
  simp only at hv
  simp only [OrdV.val]
  clear h1 q1
  go_enter Try.func38, Try.ntmps38
  go_wp2_with fail
  go_ret
  exact ⟨by first | rfl | simp [hv], HB.out⟩

set_option maxRecDepth 100000 in
set_option maxHeartbeats 4000000 in
theorem index_any {w : World} {F : Nat → Prop} {A : Option Addr} {n cap : Nat} {D : Ords} {R : HP} [hR : Stable R] (bi : Nat) (id : Int) (h : Turns F w w (star (RowN 28 5 (.slice A n cap) n (cellsO D)) R)) (hD : D.length = n) (hn : n ≤ 1000000) (hb : bi < w.heap.size) (hc : w.cell? ⟨bi, 0, none⟩ = some (.int .i64 id)) :
    Calls Try.prog 37 #[.slice A n cap, .func (.func 38) #[] #[.pointer (some ⟨bi, 0, none⟩)]] w fun e w' => Below w.heap.size w w' ∧
      ((e = .returned (.int .i64 (-1)) ∧ ∀ o ∈ D, o.id ≠ id) ∨ ∃ k : Nat, e = .returned (.int .i64 (k : Int)) ∧ k < n ∧ (atL D k).id = id) := by
  have H := Lib.hid h; have HD := Lib.hid hD; have HB := Lib.hid hb; have HC := Lib.hid hc
  clear h hD hb hc
  go_enter Try.func37, Try.ntmps37
  go_wp2_with fail
  go_loopw [8] (fun kv wr => ∃ k : Nat, kv = .int .i64 k ∧ k ≤ n ∧ Below w.heap.size w wr ∧ ∀ j, j < k → (atL D j).id ≠ id) (fun kv _ => n - (intOf kv).toNat)
  case atStart => exact ⟨0, rfl, Nat.zero_le _, Below.refl _ _, fun j h => by omega⟩
  case round =>
    obtain ⟨k, rfl, hkn, hbw, hno⟩ := hrel
    by_cases hlt : k < n
    · have hkl : k < D.length := by rw [HD.out]; exact hlt
      obtain ⟨g, hg⟩ : ∃ g, A = some ⟨g, 0, none⟩ := by
        obtain ⟨g, e, _⟩ := row_ord H.out.rowN hkl
        exact ⟨g, e⟩
      subst hg
      obtain ⟨⟨x1, x2, x3, x4, x5⟩, hx⟩ : ∃ x, D[k] = x := ⟨_, rfl⟩
      obtain ⟨t0, t1, t2, t3, t4, _⟩ := two_cells hkl hkl hx hx (H.out.more hbw)
      simp only at t0 t1 t2 t3 t4
      have b1 : (k : Int) < (n : Int) := by omega
      have c1 : IntKind.i64.wrap ((k : Int) + 1) = (k : Int) + 1 := IntWalk.i64_in _ (by omega)
      have K := place_is wr ⟨x1, x2, x3, x4, x5⟩ bi id (Nat.lt_of_lt_of_le HB.out hbw.size) ((hbw.cell (p := ⟨bi, 0, none⟩) HB.out).trans HC.out)
      obtain ⟨v, hv⟩ : ∃ v, isId id ⟨x1, x2, x3, x4, x5⟩ = v := ⟨_, rfl⟩
      rw [hv] at K
      unfold OrdV.val at K
      have hid : isId id (atL D k) = v := by rw [atL_eq hkl, hx, hv]
      have K := Lib.hid K; have HBW := Lib.hid hbw; have HNO := Lib.hid hno; have HID := Lib.hid hid
      clear hbw hno hid hv hx
      rcases v with _ | _
      · go_wp2_with fail
        refine K.out.mono ?_
        rintro e w2 ⟨rfl, hb2⟩
        have HB2 := Lib.hid (HBW.out.trans (hb2.mono HBW.out.size))
        clear hb2
        go_wp2_with fail
        go_roundw
        case rel =>
          refine ⟨k + 1, by first | rfl | simp, by omega, HB2.out, fun j hj => ?_⟩
          by_cases e : j = k
          · subst e
            have := HID.out
            unfold isId at this
            simpa using this
          · exact HNO.out j (by omega)
        case measure => simp [intOf]; omega
      · go_wp2_with fail
        refine K.out.mono ?_
        rintro e w2 ⟨rfl, hb2⟩
        have HB2 := Lib.hid (HBW.out.trans (hb2.mono HBW.out.size))
        clear hb2
        go_wp2_with fail
        go_ret
        refine ⟨HB2.out, Or.inr ⟨k, rfl, hlt, ?_⟩⟩
        have := HID.out
        unfold isId at this
        simpa using this
    · have b1 : ¬ (k : Int) < (n : Int) := by omega
      have HBW := Lib.hid hbw; have HNO := Lib.hid hno
      clear hbw hno
      go_wp2_with fail
      go_ret
      refine ⟨HBW.out, Or.inl ⟨rfl, fun o ho => ?_⟩⟩
      obtain ⟨j, hj, rfl⟩ := List.getElem_of_mem ho
      have := HNO.out j (by have := HD.out; omega)
      rwa [atL_eq hj] at this

set_option maxRecDepth 100000 in
set_option maxHeartbeats 4000000 in
theorem place_any {w : World} {p : Addr} {up : Bool} {D : Ords} {F : Nat → Prop} (id : Int) (h : RankHP p up D w F) (hl : D.length ≤ 1000000) :
    Calls Try.prog 29 #[.pointer (some p), .int .i64 id] w fun e w' => Below w.heap.size w w' ∧
      ((e = .returned (.int .i64 (-1)) ∧ ∀ o ∈ D, o.id ≠ id) ∨ ∃ k : Nat, e = .returned (.int .i64 (k : Int)) ∧ k < D.length ∧ (atL D k).id = id) := by
  obtain ⟨b, A, cap, rfl, ht⟩ := h.open'
  obtain ⟨n, hn⟩ : ∃ n, D.length = n := ⟨_, rfl⟩
  unfold ORow at ht
  rw [hn] at ht hl ⊢
  have hb : Below w.heap.size w (w.alloc (.cells #[.int .i64 id] 3)) := (Below.refl _ _).alloc (Nat.le_refl _) _
  have ht1 := ht.alloc (.cells #[.int .i64 id] 3)
  obtain ⟨_, _, q, _⟩ := ht1.swap.blk
  have q1 := q 1 _ rfl
  have K : Calls Try.prog _ _ _ _ := index_any (w := w.alloc (.cells #[.int .i64 id] 3)) w.heap.size id (F := fun _ => True) (by
    obtain ⟨F', h1, _, _⟩ := ht1
    exact ⟨F', h1, Chg.refl _ _, fun _ _ => Or.inl trivial⟩) hn hl (by simp) (by simp)
  have K := Lib.hid K
  have HB := Lib.hid hb
  clear h ht ht1 q hn hb
  go_enter Try.func29, Try.ntmps29
  go_wp2_with fail
  refine K.out.mono ?_
  rintro e w2 ⟨hb2, hr⟩
  have HB2 := Lib.hid (HB.out.trans (hb2.mono HB.out.size))
  rcases hr with ⟨rfl, hr⟩ | ⟨k, rfl, hk, hr⟩
  · have HR := Lib.hid hr
    clear hr hb2
    go_wp2_with fail
    go_ret
    exact ⟨HB2.out, Or.inl ⟨rfl, HR.out⟩⟩
  · have HR := Lib.hid hr
    clear hr hb2
    go_wp2_with fail
    go_ret
    exact ⟨HB2.out, Or.inr ⟨k, rfl, hk, HR.out⟩⟩
end Go.Proofs.Ytkbebllkjmccoaa
