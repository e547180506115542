/- awake of layer 7 answers true, and makes only new memory. Conditions: acct's and hold's calls are as their contracts say. -/
import Derived.Test.YtnicfhafepiknaaHoldApi
import Derived.WalkKit
import Derived.WalkSpells
import Derived.StillTactics
import Derived.Outline
import Derived.Deep.QuietTactic
import Derived.BigQuiet
import Derived.IntWalk
import Derived.WalkSmall
namespace Go.Proofs.Ytnicfhafepiknaa
open Go.RowKit Go.WideShapes

theorem ha_p : putE (newA 1) 0 1 10 = 0 ∧ putX (newA 1) 0 1 10 = [(0, 10)] := by decide +kernel
theorem ha_n : List.replicate ([((0 : Int), (10 : Int))] : Accts).length (0 : Int) = [0] := rfl
theorem ha_h1 : holdN [(0, 10)] [0] 0 4 = 4 ∧ holdX [(0, 10)] [0] 0 4 = [(0, 6)] ∧ holdH [(0, 10)] [0] 0 4 = [4] := by decide +kernel
theorem ha_h2 : holdN [(0, 6)] [4] 0 9 = 6 ∧ holdX [(0, 6)] [4] 0 9 = [(0, 0)] ∧ holdH [(0, 6)] [4] 0 9 = [10] := by decide +kernel
theorem ha_s : setlN [10] 0 0 3 = 3 ∧ setlX [(0, 0)] [10] 0 0 3 = [(0, 7)] ∧ setlH [(0, 0)] [10] 0 0 3 = [0] ∧ (0 : Int) + setlN [10] 0 0 3 = 3 := by decide +kernel
theorem ha_h3 : holdN [(0, 7)] [0] 0 2 = 2 ∧ holdX [(0, 7)] [0] 0 2 = [(0, 5)] ∧ holdH [(0, 7)] [0] 0 2 = [2] := by decide +kernel
theorem ha_f : forfN [2] 3 0 = 2 ∧ forfH [2] 3 0 = [0] ∧ (3 : Int) + forfN [2] 3 0 = 5 := by decide +kernel
theorem ha_h4 : holdN [(0, 5)] [0] 1 1 = 0 := by decide +kernel
theorem ha_o1 : hOf [10] 0 = 10 := by decide +kernel
theorem ha_o2 : hOf [0] 0 = 0 := by decide +kernel
theorem ha_fr : freeA [(0, 5)] 0 1 = 5 := by decide +kernel
theorem ha_g (x h g : Int) (hx : U64 x) (hh : U64 h) (hg : U64 g) : GoodF [(0, x)] [h] g :=
  ⟨fun p hp => by rw [List.mem_singleton] at hp; subst hp; exact ⟨⟨by show (0 : Int) ≤ 0; decide, by show (0 : Int) < 18446744073709551616; decide⟩, hx⟩, by simp, rfl, fun y hy => by rw [List.mem_singleton] at hy; subst hy; exact hh, hg⟩

set_option maxRecDepth 100000 in
set_option maxHeartbeats 4000000 in
theorem hawake_any {T : AcctApi} (U : HoldApi T) (w : World) :
    Calls Try.prog 28 #[] w fun e w' => e = .returned (.bool true) ∧ Below w.heap.size w w' := by
  go_enter Try.func28, Try.ntmps28
  go_wp2_with fail
  refine (st_acct T (St.start w w (Below.refl _ _)) 1 (by decide)).mono ?_
  rintro e w1 ⟨p, rfl, h1⟩
  have K := Lib.hid (h1.aput 0 1 10 (by decide) (by decide) (by decide))
  rw [ha_p.1, ha_p.2] at K
  clear h1
  go_wp2_with fail
  refine K.out.mono ?_
  clear K
  rintro e w2 ⟨rfl, h2⟩
  have K := Lib.hid (st_fees U h2 (ha_g 10 0 0 (by decide) (by decide) (by decide)).ga (by decide))
  rw [ha_n] at K
  clear h2
  go_wp2_with fail
  refine K.out.mono ?_
  clear K
  rintro e w3 ⟨q, rfl, h3⟩
  have K := Lib.hid (h3.fhold 0 4 (ha_g 10 0 0 (by decide) (by decide) (by decide)) (by decide) (by decide))
  rw [ha_h1.1, ha_h1.2.1, ha_h1.2.2] at K
  clear h3
  go_wp2_with fail
  refine K.out.mono ?_
  clear K
  rintro e w4 ⟨rfl, h4⟩
  have K := Lib.hid (h4.fhold 0 9 (ha_g 6 4 0 (by decide) (by decide) (by decide)) (by decide) (by decide))
  rw [ha_h2.1, ha_h2.2.1, ha_h2.2.2] at K
  clear h4
  go_wp2_with fail
  refine K.out.mono ?_
  clear K
  rintro e w5 ⟨rfl, h5⟩
  have K := Lib.hid (h5.fheld 0 (by decide))
  rw [ha_o1] at K
  clear h5
  go_wp2_with fail
  refine K.out.mono ?_
  clear K
  rintro e w6 ⟨rfl, h6, _⟩
  have K := Lib.hid (h6.fsettle 0 3 (ha_g 0 10 0 (by decide) (by decide) (by decide)) (by decide) (by decide))
  rw [ha_s.2.2.2, ha_s.1, ha_s.2.1, ha_s.2.2.1] at K
  clear h6
  go_wp2_with fail
  refine K.out.mono ?_
  clear K
  rintro e w7 ⟨rfl, h7⟩
  have K := Lib.hid (h7.fhold 0 2 (ha_g 7 0 3 (by decide) (by decide) (by decide)) (by decide) (by decide))
  rw [ha_h3.1, ha_h3.2.1, ha_h3.2.2] at K
  clear h7
  go_wp2_with fail
  refine K.out.mono ?_
  clear K
  rintro e w8 ⟨rfl, h8⟩
  have K := Lib.hid (h8.fforfeit 0 (ha_g 5 2 3 (by decide) (by decide) (by decide)) (by decide))
  rw [ha_f.2.2, ha_f.1, ha_f.2.1] at K
  clear h8
  go_wp2_with fail
  refine K.out.mono ?_
  clear K
  rintro e w9 ⟨rfl, h9⟩
  have K := Lib.hid (h9.swap.afree 0 1 (by decide) (by decide))
  rw [ha_fr] at K
  clear h9
  go_wp2_with fail
  refine K.out.mono ?_
  clear K
  rintro e w10 ⟨rfl, h10, _⟩
  have K := Lib.hid (h10.swap.fgot)
  clear h10
  go_wp2_with fail
  refine K.out.mono ?_
  clear K
  rintro e w11 ⟨rfl, h11, _⟩
  have K := Lib.hid (h11.fheld 0 (by decide))
  rw [ha_o2] at K
  clear h11
  go_wp2_with fail
  refine K.out.mono ?_
  clear K
  rintro e w12 ⟨rfl, h12, _⟩
  have K := Lib.hid (h12.fhold 1 1 (ha_g 5 0 5 (by decide) (by decide) (by decide)) (by decide) (by decide))
  rw [ha_h4] at K
  clear h12
  go_wp2_with fail
  refine K.out.mono ?_
  clear K
  rintro e w13 ⟨rfl, h13⟩
  have HB := Lib.hid h13.below
  clear h13
  go_wp2_with fail
  go_ret
  exact ⟨rfl, HB.out⟩
end Go.Proofs.Ytnicfhafepiknaa
