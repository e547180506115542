/- awake of layer 4 answers true, and makes only new memory. Conditions: sign's calls are as their contracts say. -/
import Derived.Test.YtalcncfgfehkdaaSignApi
import Derived.Test.YtalcncfgfehkdaaPairs
namespace Go.Proofs.Ytalcncfgfehkdaa
open Go.RowKit Go.WideShapes

theorem aw_s1 : signAdd [] ((7 : Int), (1 : Int)) = [(7, 1)] := by decide +kernel
theorem aw_s2 : signAdd [((7 : Int), (1 : Int))] (3, 1) = [(7, 1), (3, 1)] := by decide +kernel
theorem aw_s3 : signAdd [((7 : Int), (1 : Int)), (3, 1)] (7, 1) = [(7, 1), (3, 1)] := by decide +kernel
theorem aw_h1 : decide (((7 : Int), (1 : Int)) ∈ [((7 : Int), (1 : Int)), (3, 1)]) = true := by decide +kernel
theorem aw_h2 : decide (((1 : Int), (7 : Int)) ∈ [((7 : Int), (1 : Int)), (3, 1)]) = false := by decide +kernel
theorem aw_h3 : decide (((7 : Int), (2 : Int)) ∈ [((7 : Int), (1 : Int)), (3, 1)]) = false := by decide +kernel
theorem aw_l1 : allOf [((7 : Int), (1 : Int)), (3, 1)] 1 = [3, 7] := by decide +kernel
theorem aw_l2 : allOf [((7 : Int), (1 : Int)), (3, 1)] 2 = [] := by decide +kernel
theorem aw_37 : decide (([3, 7] : List Int) = [3, 7]) = true := by decide +kernel

set_option maxRecDepth 100000 in
set_option maxHeartbeats 2000000 in
theorem sawake_any (T : SignApi) (w : World) :
    Calls Try.prog 10 #[] w fun e w' => e = .returned (.bool true) ∧ Below w.heap.size w w' := by
  go_enter Try.func10, Try.ntmps10
  go_wp2_with fail
  refine (st_book T (St.start w w (Below.refl _ _))).mono ?_
  rintro e w1 ⟨p, rfl, h1⟩
  go_wp2_with fail
  have K := h1.sign 7 1 (by decide) (by decide) (by decide)
  rw [aw_s1] at K
  refine K.mono ?_
  clear K
  rintro e w2 ⟨rfl, h2⟩
  go_wp2_with fail
  have K := h2.sign 3 1 (by decide) (by decide) (by decide)
  rw [aw_s2] at K
  refine K.mono ?_
  clear K
  rintro e w3 ⟨rfl, h3⟩
  go_wp2_with fail
  have K := h3.sign 7 1 (by decide) (by decide) (by decide)
  rw [aw_s3] at K
  refine K.mono ?_
  clear K
  rintro e w4 ⟨rfl, h4⟩
  go_wp2_with fail
  have K := h4.has 7 1 (by decide) (by decide) (by decide)
  rw [aw_h1] at K
  refine K.mono ?_
  clear K
  rintro e w5 ⟨rfl, h5, _⟩
  go_wp2_with fail
  have K := h5.has 1 7 (by decide) (by decide) (by decide)
  rw [aw_h2] at K
  refine K.mono ?_
  clear K
  rintro e w6 ⟨rfl, h6, _⟩
  go_wp2_with fail
  have K := h6.has 7 2 (by decide) (by decide) (by decide)
  rw [aw_h3] at K
  refine K.mono ?_
  clear K
  rintro e w7 ⟨rfl, h7, _⟩
  go_wp2_with fail
  have K := h7.all 1 (by decide) (by decide)
  rw [aw_l1] at K
  refine K.mono ?_
  clear K
  rintro e w8 ⟨x, rfl, h8⟩
  obtain ⟨A, cap, rfl, hin⟩ := h8.ints
  have hin' := hin.below ((Below.refl _ _).alloc (Nat.le_refl _) (.cells #[.int .i64 3, .int .i64 7] 3))
  have K := same_any (cap := cap) (capb := 2) hin' (ints_made w8 [3, 7] #[.int .i64 3, .int .i64 7] 3 (0, 0) rfl) (by decide) (by decide)
  rw [aw_37] at K
  have HK := Lib.hid K; have H8 := Lib.hid (h8.snd.alloc (.cells #[.int .i64 3, .int .i64 7] 3))
  clear K hin hin' h8 h1 h2 h3 h4 h5 h6 h7
  go_wp2_with fail
  refine HK.out.mono ?_
  rintro e w9 ⟨rfl, q, rfl⟩
  have h9 := H8.out.more (below_drewN (Below.refl _ _) q)
  have K := h9.all 2 (by decide) (by decide)
  rw [aw_l2] at K
  have HK2 := Lib.hid K
  clear K h9
  go_wp2_with fail
  refine HK2.out.mono ?_
  rintro e w10 ⟨y, rfl, h10⟩
  obtain ⟨A2, cap2, rfl, _⟩ := h10.ints
  have HB := Lib.hid h10.below
  clear h10 HK HK2 H8
  go_wp2_with fail
  go_ret
  exact ⟨rfl, HB.out⟩
end Go.Proofs.Ytalcncfgfehkdaa
