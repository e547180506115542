/- awake of layer 5 answers true, and makes only new memory. Conditions: seal's calls are as their contracts say. -/
import Derived.Test.YtdhnpbfoeohhmaaSealApi
import Derived.Test.YtdhnpbfoeohhmaaPairs
import Derived.Lib.SlBytesConst
namespace Go.Proofs.Ytdhnpbfoeohhmaa
open Go.RowKit Go.WideShapes

/-- The texts and the shares of awake. -/
def awT1 : Texts := [(5, [120])]
def awT : Texts := [(5, [120]), (5, [120])]
def awL1 : List (Int × Int) := [(1, 1)]
def awL2 : List (Int × Int) := [(1, 1), (2, 1)]
theorem av_1 : isC awT 1 = true := by decide +kernel
theorem av_3 : isC awT 3 = false := by decide +kernel
theorem av_s1 : shareAdd awT [] 1 1 = awL1 := by decide +kernel
theorem av_s2 : shareAdd awT awL1 1 1 = awL1 := by decide +kernel
theorem av_s3 : shareAdd awT awL1 2 1 = awL2 := by decide +kernel
theorem av_s4 : shareAdd awT awL2 1 3 = awL2 := by decide +kernel
theorem av_o1 : openOk 2 awT awL1 5 1 = false := by decide +kernel
theorem av_o2 : openOk 2 awT awL2 5 1 = true ∧ openRow 2 awT awL2 5 1 = [120] := by decide +kernel
theorem av_o3 : openOk 2 awT awL2 6 1 = false := by decide +kernel
theorem av_l : allOf awL2 1 = [1, 2] := by decide +kernel
theorem av_12 : decide (([1, 2] : List Int) = [1, 2]) = true := by decide +kernel
theorem av_on1 : OnlyC awT awL1 := by rw [← av_s1]; exact (onlyC_nil _).share 1 1
theorem av_on2 : OnlyC awT awL2 := by rw [← av_s3]; exact av_on1.share 2 1

set_option maxRecDepth 100000 in
set_option maxHeartbeats 4000000 in
theorem vawake_any (S : SealApi) (w : World) :
    Calls Try.prog 8 #[] w fun e w' => e = .returned (.bool true) ∧ Below w.heap.size w w' := by
  have kc := fun (w : World) (C : Array Value) (n c : Nat) => Lib.run_convert_bytes_const (P := Try.prog) w 23 5 C n c Try.underlying23 Try.underlying5
  go_enter Try.func8, Try.ntmps8
  go_wp2_with fail
  refine (st_vault S (St.start w w (Below.refl _ _)) 2 (by decide)).mono ?_
  rintro e w1 ⟨p, rfl, h1⟩
  go_wp2_with fail
  have K := (h1.alloc _).vseal 5 (some ⟨w1.heap.size, 0, none⟩) 1 1 [120] (by decide) (by decide) rfl (Nat.le_trans (by decide) S.lim_ge) (by decide) (fun h => by cases h) (lie8_made w1 [120] #[.int .u8 120] 5 (1, 2) rfl)
  refine K.mono ?_
  clear K h1
  rintro e w2 ⟨rfl, h2⟩
  go_wp2_with fail
  have K := (h2.alloc _).vseal 5 (some ⟨w2.heap.size, 0, none⟩) 1 1 [120] (by decide) (by decide) rfl (Nat.le_trans (by decide) S.lim_ge) (by decide) (fun h => by cases h) (lie8_made w2 [120] #[.int .u8 120] 5 (1, 2) rfl)
  refine K.mono ?_
  clear K h2
  rintro e w3 ⟨rfl, h3⟩
  change St w w3 (star (S.IsV (.pointer (some p)) 2 awT []) nothing) at h3
  have H3 := Lib.hid h3
  clear h3
  go_wp2_with fail
  have K := H3.out.vshare 1 1 (by decide) (by decide) (onlyC_nil _) (by decide) (by decide)
  rw [av_1, av_s1] at K
  refine K.mono ?_
  clear K H3
  rintro e w4 ⟨rfl, h4⟩
  have K := Lib.hid (h4.vopen 5 1 (by decide) (by decide) av_on1 (by decide) (by decide))
  rw [av_o1] at K
  clear h4
  go_wp2_with fail
  refine K.out.mono ?_
  clear K
  rintro e w5 ⟨x5, rfl, h5⟩
  have K := Lib.hid (h5.snd.vshare 1 1 (by decide) (by decide) av_on1 (by decide) (by decide))
  rw [av_1, av_s2] at K
  clear h5
  go_wp2_with fail
  refine K.out.mono ?_
  clear K
  rintro e w6 ⟨rfl, h6⟩
  have K := Lib.hid (h6.vopen 5 1 (by decide) (by decide) av_on1 (by decide) (by decide))
  rw [av_o1] at K
  clear h6
  go_wp2_with fail
  refine K.out.mono ?_
  clear K
  rintro e w7 ⟨x7, rfl, h7⟩
  have K := Lib.hid (h7.snd.vshare 2 1 (by decide) (by decide) av_on1 (by decide) (by decide))
  rw [av_1, av_s3] at K
  clear h7
  go_wp2_with fail
  refine K.out.mono ?_
  clear K
  rintro e w8 ⟨rfl, h8⟩
  have K := Lib.hid (h8.vopen 5 1 (by decide) (by decide) av_on2 (by decide) (by decide))
  rw [av_o2.1, av_o2.2] at K
  clear h8
  go_wp2_with fail
  refine K.out.mono ?_
  clear K
  rintro e w9 ⟨x9, rfl, h9⟩
  have K := Lib.hid (h9.swap.vopen 6 1 (by decide) (by decide) av_on2 (by decide) (by decide))
  rw [av_o3] at K
  clear h9
  go_wp2_with fail
  refine K.out.mono ?_
  clear K
  rintro e w10 ⟨x10, rfl, h10⟩
  have h11 := h10.snd.swap
  obtain ⟨A, cap, rfl, hcap, hnil, hlie⟩ := h11.lieR
  have HC : (convert 23 9 (.slice A 1 cap)).run Try.prog w10 = .ok (.string { data := #[120] }) w10 := conv8 (P := Try.prog) (src := 23) (dst := 9) (n := 1) (cap := cap) Try.underlying23 Try.underlying5 Try.underlying9 rfl (fun h => Nat.le_zero.1 (hnil h ▸ hcap)) hlie
  have K := Lib.hid (h11.snd.vshare 1 3 (by decide) (by decide) av_on2 (by decide) (by decide))
  rw [av_3, av_s4] at K
  clear h10 h11 hnil hlie hcap
  go_wp2_with fail
  refine K.out.mono ?_
  clear K
  rintro e w12 ⟨rfl, h12⟩
  have K := Lib.hid (h12.vshares 1 (by decide) (by decide) av_on2 (by decide))
  rw [av_l] at K
  clear h12 HC
  go_wp2_with fail
  refine K.out.mono ?_
  clear K
  rintro e w13 ⟨x13, rfl, h13⟩
  obtain ⟨A13, cap13, rfl, hin⟩ := h13.ints
  have hin' := hin.below ((Below.refl _ _).alloc (Nat.le_refl _) (.cells #[.int .i64 1, .int .i64 2] 3))
  have K := Lib.hid (same_any (cap := cap13) (capb := 2) hin' (ints_made w13 [1, 2] #[.int .i64 1, .int .i64 2] 3 (0, 0) rfl) (by decide) (by decide))
  rw [av_12] at K
  have H13 := Lib.hid (h13.snd.alloc (.cells #[.int .i64 1, .int .i64 2] 3))
  clear h13 hin hin'
  go_wp2_with fail
  refine K.out.mono ?_
  clear K
  rintro e w14 ⟨rfl, q, rfl⟩
  have K := Lib.hid ((H13.out.more (below_drewN (Below.refl _ _) q)).vlen (by decide))
  clear H13
  go_wp2_with fail
  refine K.out.mono ?_
  clear K
  rintro e w15 ⟨rfl, h15, _⟩
  have HB := Lib.hid h15.below
  clear h15
  go_wp2_with fail
  go_ret
  exact ⟨rfl, HB.out⟩
end Go.Proofs.Ytdhnpbfoeohhmaa
