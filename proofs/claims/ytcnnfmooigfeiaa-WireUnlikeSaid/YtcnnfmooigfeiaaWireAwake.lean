/- awake of layer 2 answers true, and makes only new memory. Conditions: wire's calls are as their contracts say. -/
import Derived.Test.YtcnnfmooigfeiaaWireSt
import Derived.Lib.SlBytesConst
import Derived.WalkKit
import Derived.WalkSpells
import Derived.StillTactics
import Derived.Outline
import Derived.Deep.QuietTactic
import Derived.BigQuiet
namespace Go.Proofs.Ytcnnfmooigfeiaa
open Go.RowKit Go.WideShapes

/-- The bytes of awake. -/
def awake8 : List UInt8 := num8 258 ++ num8 (asU (-1)) ++ text8 [97, 98]
theorem awake8_is : (⟨awake8.toArray⟩ : ByteArray) = { data := #[0, 0, 0, 0, 0, 0, 1, 2, 255, 255, 255, 255, 255, 255, 255, 255, 0, 0, 0, 0, 0, 0, 0, 2, 97, 98] } := by decide +kernel

def awake8b : List UInt8 := num8 (asU (-1)) ++ text8 [97, 98]
def awake8c : List UInt8 := text8 [97, 98]
theorem aw1 : nextNum (some awake8) = (258, some awake8b) := by decide +kernel
theorem aw2 : nextNum (some awake8b) = (18446744073709551615, some awake8c) := by decide +kernel
theorem aw2i : asI 18446744073709551615 = -1 := by decide
theorem aw3 : nextText (some awake8c) = ([97, 98], some []) := by decide +kernel
theorem aw4 : nextNum (some []) = (0, none) := by decide +kernel
theorem aw5 : decide (some ([] : List UInt8) = some []) = true := by decide
theorem aw6 : decide ((none : Left8) = some []) = false := by decide

set_option maxRecDepth 100000 in
set_option maxHeartbeats 2000000 in
theorem awake_any (A : WireApi) (w : World) :
    Calls Try.prog 8 #[] w fun e w' => e = .returned (.bool true) ∧ Below w.heap.size w w' := by
  have kc := fun (w : World) (C : Array Value) (n c : Nat) => Lib.run_convert_bytes_const (P := Try.prog) w 25 5 C n c Try.underlying25 Try.underlying5
  go_enter Try.func8, Try.ntmps8
  go_wp2_with fail
  refine (st_new A w w (Below.refl _ _)).mono ?_
  rintro e w1 ⟨p, rfl, h1⟩
  go_wp2_with fail
  refine (h1.num 258 ⟨by decide, by decide⟩ (by decide)).mono ?_
  rintro e w2 ⟨rfl, h2⟩
  go_wp2_with fail
  refine (h2.int (-1) (by decide)).mono ?_
  rintro e w3 ⟨rfl, h3⟩
  go_wp2_with fail
  refine (h3.text_new _ 2 2 [97, 98] (by decide) rfl (by decide) (by decide) ?_).mono ?_
  · intro j hj
    simp only [List.length_cons, List.length_nil] at hj
    have : j = 0 ∨ j = 1 := by omega
    rcases this with rfl | rfl <;> (rw [World.cell?_alloc_mark]; rfl)
  rintro e w4 ⟨rfl, h4⟩
  rw [List.nil_append] at h4
  change WSt A w w4 _ awake8 at h4
  go_wp2_with fail
  refine (h4.bytes (by decide)).mono ?_
  rintro e w5 ⟨x, rfl, hx, h5⟩
  obtain ⟨a1, cap1, rfl, _, hcap1, hnil1, hlie1⟩ := lie8_own (F := fun _ => False) hx.1 (fun _ _ h => h)
  clear hx
  go_wp2_with fail
  refine (h5.read a1 _ cap1 awake8 rfl (by decide) hcap1 hnil1 hlie1).mono ?_
  rintro e w6 ⟨q, rfl, h6, _⟩
  clear hlie1 hcap1 hnil1
  go_wp2_with fail
  have K := h6.rnum
  rw [aw1] at K
  refine K.mono ?_
  clear K
  rintro e w7 ⟨rfl, h7⟩
  go_wp2_with fail
  have K := h7.rint
  rw [aw2, aw2i] at K
  refine K.mono ?_
  clear K
  rintro e w8 ⟨rfl, h8⟩
  go_wp2_with fail
  have K := h8.rtext
  rw [aw3] at K
  refine K.mono ?_
  clear K
  rintro e w9 ⟨x, rfl, hx, h9⟩
  obtain ⟨a2, cap2, rfl, _, hcap2, hnil2, hlie2⟩ := lie8_own (F := fun _ => False) hx (fun _ _ h => h)
  clear hx
  go_wp2_with fail
  refine (h9.bytes (by decide)).mono ?_
  rintro e w10 ⟨x, rfl, hx, h10⟩
  have hlie3 := hlie2.below hx.2
  obtain ⟨a3, cap3, rfl, _, hcap3, hnil3, hlie4⟩ := lie8_own (F := fun _ => False) hx.1 (fun _ _ h => h)
  have c1 := conv8 (P := Try.prog) (src := 25) (dst := 9) (cap := cap3) (n := awake8.length) Try.underlying25 Try.underlying5 Try.underlying9 rfl (fun h => Nat.le_zero.1 (hnil3 h ▸ hcap3)) hlie4
  have c2 := conv8 (P := Try.prog) (src := 25) (dst := 9) (cap := cap2) (n := 2) Try.underlying25 Try.underlying5 Try.underlying9 rfl (fun h => Nat.le_zero.1 (hnil2 h ▸ hcap2)) hlie3
  rw [awake8_is] at c1
  clear hx hlie2 hlie3 hlie4 hcap3 hnil3 hnil2 hcap2
  go_wp2_with fail
  replace h10 : BSt A w w10 (.pointer (some p)) awake8 (.pointer (some q)) (some []) := h10
  have K := h10.done
  rw [aw5] at K
  refine K.mono ?_
  clear K
  rintro e w11 ⟨rfl, h11⟩
  go_wp2_with fail
  have K := h11.rnum
  rw [aw4] at K
  refine K.mono ?_
  clear K
  rintro e w12 ⟨rfl, h12⟩
  replace h12 : BSt A w w12 (.pointer (some p)) awake8 (.pointer (some q)) none := h12
  go_wp2_with fail
  have K := h12.done
  rw [aw6] at K
  refine K.mono ?_
  clear K
  rintro e w13 ⟨rfl, h13⟩
  go_wp2_with fail
  go_ret
  exact ⟨rfl, h13.below⟩
end Go.Proofs.Ytcnnfmooigfeiaa
