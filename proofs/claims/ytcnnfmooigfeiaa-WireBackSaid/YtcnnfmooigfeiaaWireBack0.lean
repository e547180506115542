/- WireBack answers true where there are no parts. Conditions: wire's calls are as their contracts say. -/
import Derived.Test.YtcnnfmooigfeiaaWirePst
namespace Go.Proofs.Ytcnnfmooigfeiaa
open Go.RowKit Go.WideShapes

/-- A row of none of the call's own. -/
theorem own_none8 {w : World} {base : Nat} {v : Value} (h : w.ownsRow base 5 1 v 0 (cells8 [])) : ∃ (A : Option Addr) (cap : Nat), v = .slice A 0 cap ∧ (A = none → cap = 0) := by
  rcases h.2 with ⟨rfl, _⟩ | ⟨g, cap, cur, rfl, _⟩
  · exact ⟨none, 0, rfl, fun _ => rfl⟩
  · exact ⟨_, cap, rfl, fun h => by cases h⟩

set_option maxRecDepth 100000 in
set_option maxHeartbeats 8000000 in
theorem back_none (A : WireApi) (a : Option Addr) (cap : Nat) (at_ : Int) (w : World) :
    Calls Try.prog 6 #[.slice a 0 cap, .int .i64 at_] w fun e w' => e = .returned (.bool true) ∧ Below w.heap.size w w' := by
  obtain ⟨i0, hi, hz0, hz1, hz2⟩ := info_parts u8_info
  go_enter Try.func6, Try.ntmps6
  go_wp2_with fail
  refine (st_new A w w (Below.refl _ _)).mono ?_
  rintro e w1 ⟨p, rfl, h1⟩
  go_wp2_with fail
  refine wp_loop_rounds 1 ?_
  rw [rounds_succ]
  go_wp2_with fail
  refine (h1.bytes (by simp)).mono ?_
  rintro e w2 ⟨x, rfl, hx, h2⟩
  obtain ⟨ab, capb, rfl, hnilb⟩ := own_none8 hx.1
  have hbl2 := h2.below
  have K := rsame_any ab none 0 0 capb 0 [] [] w2 (fun _ => False) rfl (fun _ => rfl) (Or.inl rfl) rfl (fun _ => rfl) (Or.inl rfl)
  rw [decide_eq_true rfl] at K
  clear hx h2 h1
  go_wp2_with fail
  refine K.mono ?_
  clear K
  rintro e w3 ⟨rfl, rfl⟩
  go_wp2_with fail
  go_loopw [9] (fun sq wr => ∃ q : Nat, q ≤ 3 ∧ sq = .int .i64 q ∧ Below w.heap.size w wr) (fun sq _ => 3 - (intOf sq).toNat)
  case atStart => exact ⟨0, by omega, rfl, hbl2⟩
  case round =>
    clear hbl2
    obtain ⟨q, hq, rfl, hbl⟩ := hrel
    by_cases hq3 : q < 3
    · have hown0 : (wr.alloc (.cells #[] 5)).ownsRow wr.heap.size 5 1 (.slice (some ⟨wr.heap.size, 0, none⟩) 0 0) 0 [] := World.ownsRow_made wr #[] 0 (Nat.le_refl _) (Nat.zero_le _) rfl
      have HBL := Lib.hid hbl
      have hq : q = 0 ∨ q = 1 ∨ q = 2 := by omega
      have hszr := hbl.size
      clear hbl
      go_upto_region 25 with fail
      go_cut [10] (fun s10 wx => wx.ownsRow wr.heap.size 5 1 s10 0 (cells8 []) ∧ Below w.heap.size w wx ∧ wr.heap.size ≤ wx.heap.size)
      case first =>
        rcases ab with _ | ad
        · obtain rfl := hnilb rfl
          go_wp2_with (at_builtin; refine wpList_append_own_none (by rfl) (.tmp 101) (.tmp 102) _ rfl wr.heap.size 5 i0 1 Try.underlying25 hi _ _ _ rfl hown0 rfl ?_)
          go_meet
          exact ⟨hown0, HBL.out.alloc hszr _, by simp⟩
        · go_wp2_with (at_builtin; refine wpList_append_own _ rfl (.tmp 101) (.tmp 102) _ rfl wr.heap.size 5 i0 (.int .u8 0) 1 1 Try.underlying25 hi hz0 hz1 hz2 rfl (by decide) _ _ _ rfl hown0 ad 0 capb [] rfl rfl (by intro j u hu; simp at hu) (by intro u hu; cases hu) (by unfold maxLen; omega) (by omega) (by simp) ?_)
          intro v1 w4 hown1 hg1 _
          have hsz4 := hg1.size
          have hb4 : Below w.heap.size w w4 := (HBL.out.alloc hszr _).grown hg1 (by simp; omega) (fun k hk => Nat.le_trans hszr (hown0.lt k hk).1)
          go_wp2_with fail
          go_meet
          exact ⟨hown1, hb4, by simp at hsz4; omega⟩
      case rest =>
        obtain ⟨hoc, hbc, hszc⟩ := hcut
        have HBC := Lib.hid hbc
        clear hbc
        rcases hq with rfl | rfl | rfl
        · obtain ⟨ac, cc, rfl, hnc⟩ := own_none8 hoc
          clear hoc
          go_wp2_with fail
          refine (RSt.read A (Below.refl _ wc) ac 0 cc [] rfl (by decide) (Nat.zero_le _) hnc (Or.inl rfl)).mono ?_
          rintro e w6 ⟨r, rfl, hr, _⟩
          go_wp2_with fail
          refine wp_loop_rounds 1 ?_
          rw [rounds_succ]
          go_wp2_with (go_at_call 18; refine (hr.done_is (b := true) (by decide)).mono ?_; rintro e w7 ⟨rfl, h7⟩)
          go_roundw
          case rel => exact ⟨1, by omega, rfl, HBC.out.trans (h7.below.mono HBC.out.size)⟩
          case measure => decide
        · have hszw := HBC.out.size
          go_wp2_with (at_builtin; refine wpList_append_own _ rfl (.tmp 106) (.tmp 107) _ rfl wr.heap.size 5 i0 (.int .u8 0) 1 1 Try.underlying25 hi hz0 hz1 hz2 rfl (by decide) _ _ _ rfl (hoc.alloc _) ⟨wc.heap.size, 0, none⟩ 1 1 (cells8 [0]) rfl rfl (one_cell wc _ _) (cells8_one _) (by unfold maxLen; omega) (by omega) (by simp; omega) ?_)
          intro v2 w5 hown2 hg2 _
          have hb5 : Below w.heap.size w w5 := (HBC.out.alloc hszw _).grown hg2 (by simp; omega) (fun k hk => Nat.le_trans hszr (hoc.lt k hk).1)
          have hown3 : w5.ownsRow wr.heap.size 5 1 v2 1 (cells8 [0]) := by simpa [cells8] using hown2
          obtain ⟨gc, cc, rfl, _, hgcs, hncc, _, hcc, _⟩ := own_form hown3 (by omega)
          have hlc : Lie8 w5 (fun _ => False) (some ⟨gc, 0, none⟩) [0] := Or.inr ⟨_, rfl, hgcs, (fun h => h), fun j hj => by rw [add_plain, Nat.zero_add]; exact hcc j hj⟩
          clear hown2 hown3 hg2 hcc hoc
          go_wp2_with fail
          refine (RSt.read A (Below.refl _ w5) (some ⟨gc, 0, none⟩) 1 cc [0] rfl (by decide) hncc (fun h => by cases h) hlc).mono ?_
          rintro e w6 ⟨r, rfl, hr, _⟩
          go_wp2_with fail
          refine wp_loop_rounds 1 ?_
          rw [rounds_succ]
          go_wp2_with (go_at_call 18; refine (hr.done_is (b := false) (by decide)).mono ?_; rintro e w7 ⟨rfl, h7⟩)
          go_roundw
          case rel => exact ⟨2, by omega, rfl, hb5.trans (h7.below.mono hb5.size)⟩
          case measure => decide
        · obtain ⟨ac, cc, rfl, hnc⟩ := own_none8 hoc
          clear hoc
          go_wp2_with fail
          refine (RSt.read A (Below.refl _ wc) ac 0 cc [] rfl (by decide) (Nat.zero_le _) hnc (Or.inl rfl)).mono ?_
          rintro e w6 ⟨r, rfl, hr, _⟩
          go_wp2_with fail
          refine wp_loop_rounds 1 ?_
          rw [rounds_succ]
          go_wp2_with (go_at_call 18; refine (hr.done_is (b := true) (by decide)).mono ?_; rintro e w7 ⟨rfl, h7⟩)
          go_roundw
          case rel => exact ⟨3, by omega, rfl, HBC.out.trans (h7.below.mono HBC.out.size)⟩
          case measure => decide
    · have hq4 : q = 3 := by omega
      subst hq4
      go_wp2_with (go_at_call 8; refine (awake_any A _).mono ?_; rintro e w4 ⟨rfl, hb4⟩)
      go_ret
      exact ⟨rfl, hbl.trans (hb4.mono hbl.size)⟩
end Go.Proofs.Ytcnnfmooigfeiaa
