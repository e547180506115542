/- awake of layer 6 answers true, and makes only new memory. Conditions: acct's calls are as their contracts say. -/
import Derived.Test.YtnicfhafepiknaaAcctApi
import Derived.WalkKit
import Derived.WalkSpells
import Derived.StillTactics
import Derived.Outline
import Derived.Deep.QuietTactic
import Derived.BigQuiet
import Derived.IntWalk
import Derived.WalkSmall
namespace Go.Proofs.Ytnicfhafepiknaa
open Go.RowKit Go.WideShapes

def awX1 : Accts := [(0, 0), (0, 5)]
theorem aa_p1 : putE (newA 2) 1 1 5 = 0 ∧ putX (newA 2) 1 1 5 = awX1 := by decide +kernel
theorem aa_t1 : takeE awX1 1 1 7 = 4 ∧ takeX awX1 1 1 7 = awX1 := by decide +kernel
theorem aa_s1 : sumV awX1 1 = 5 ∧ sumOk awX1 1 = true := by decide +kernel
theorem aa_t2 : takeE awX1 1 1 5 = 0 ∧ takeX awX1 1 1 5 = newA 2 := by decide +kernel
theorem aa_p2 : putE awX1 2 0 1 = 2 ∧ putX awX1 2 0 1 = awX1 := by decide +kernel
theorem aa_p3 : putE awX1 0 2 1 = 3 ∧ putX awX1 0 2 1 = awX1 := by decide +kernel
theorem aa_p4 : putE awX1 1 1 18446744073709551615 = 5 ∧ putX awX1 1 1 18446744073709551615 = awX1 := by decide +kernel
theorem aa_f1 : freeA awX1 1 1 = 5 := by decide +kernel
theorem aa_f2 : freeA (newA 2) 1 1 = 0 := by decide +kernel

set_option maxRecDepth 100000 in
set_option maxHeartbeats 4000000 in
theorem aawake_any (T : AcctApi) (w : World) :
    Calls Try.prog 14 #[] w fun e w' => e = .returned (.bool true) ∧ Below w.heap.size w w' := by
  go_enter Try.func14, Try.ntmps14
  go_wp2_with fail
  refine (st_acct T (St.start w w (Below.refl _ _)) 2 (by decide)).mono ?_
  rintro e w1 ⟨p, rfl, h1⟩
  have K := Lib.hid (h1.aput 1 1 5 (by decide) (by decide) (by decide))
  rw [aa_p1.1, aa_p1.2] at K
  clear h1
  go_wp2_with fail
  refine K.out.mono ?_
  clear K
  rintro e w2 ⟨rfl, h2⟩
  have K := Lib.hid (h2.atake 1 1 7 (by decide) (by decide) (by decide))
  rw [aa_t1.1, aa_t1.2] at K
  clear h2
  go_wp2_with fail
  refine K.out.mono ?_
  clear K
  rintro e w3 ⟨rfl, h3⟩
  have K := Lib.hid (h3.asum 1 (by decide))
  rw [aa_s1.1, aa_s1.2] at K
  clear h3
  go_wp2_with fail
  refine K.out.mono ?_
  clear K
  rintro e w4 ⟨rfl, h4, _⟩
  have K := Lib.hid h4.acopy
  clear h4
  go_wp2_with fail
  refine K.out.mono ?_
  clear K
  rintro e w5 ⟨p2, rfl, h5⟩
  have K := Lib.hid (h5.atake 1 1 5 (by decide) (by decide) (by decide))
  rw [aa_t2.1, aa_t2.2] at K
  clear h5
  go_wp2_with fail
  refine K.out.mono ?_
  clear K
  rintro e w6 ⟨rfl, h6⟩
  have K := Lib.hid (h6.swap.aput 2 0 1 (by decide) (by decide) (by decide))
  rw [aa_p2.1, aa_p2.2] at K
  clear h6
  go_wp2_with fail
  refine K.out.mono ?_
  clear K
  rintro e w7 ⟨rfl, h7⟩
  have K := Lib.hid (h7.aput 0 2 1 (by decide) (by decide) (by decide))
  rw [aa_p3.1, aa_p3.2] at K
  clear h7
  go_wp2_with fail
  refine K.out.mono ?_
  clear K
  rintro e w8 ⟨rfl, h8⟩
  have K := Lib.hid (h8.aput 1 1 18446744073709551615 (by decide) (by decide) (by decide))
  rw [aa_p4.1, aa_p4.2] at K
  clear h8
  go_wp2_with fail
  refine K.out.mono ?_
  clear K
  rintro e w9 ⟨rfl, h9⟩
  have K := Lib.hid (h9.afree 1 1 (by decide) (by decide))
  rw [aa_f1] at K
  clear h9
  go_wp2_with fail
  refine K.out.mono ?_
  clear K
  rintro e w10 ⟨rfl, h10, _⟩
  have K := Lib.hid (h10.swap.afree 1 1 (by decide) (by decide))
  rw [aa_f2] at K
  clear h10
  go_wp2_with fail
  refine K.out.mono ?_
  clear K
  rintro e w11 ⟨rfl, h11, _⟩
  have HB := Lib.hid h11.below
  clear h11
  go_wp2_with fail
  go_ret
  exact ⟨rfl, HB.out⟩
end Go.Proofs.Ytnicfhafepiknaa
