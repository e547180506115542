/- slices.rotateCmpFunc over a row of orders. Conditions: the row lies in a block of its own; at most a million orders. -/
import Derived.Test.YtkbebllkjmccoaaSortSwap
namespace Go.Proofs.Ytkbebllkjmccoaa
open Go.RowKit Go.WideShapes

set_option maxRecDepth 100000 in
set_option maxHeartbeats 4000000 in
theorem rotate_any {F0 : Nat → Prop} {w0 w : World} {g n cap : Nat} {D : Ords} {R : HP} [hR : Stable R] (a m b : Nat) (fv : Value) (h : Turns F0 w0 w (star (RowN 28 5 (.slice (some ⟨g, 0, none⟩) n cap) n (cellsO D)) R)) (hD : D.length = n) (hn : n ≤ 1000000) (ham : a < m) (hmb : m < b) (hb : b ≤ n) :
    Calls Try.prog 44 #[.slice (some ⟨g, 0, none⟩) n cap, .int .i64 a, .int .i64 m, .int .i64 b, fv] w fun e w' => e = .returned (.tuple #[]) ∧ ∃ E, RotR D E a m b ∧ Turns F0 w0 w' (star (RowN 28 5 (.slice (some ⟨g, 0, none⟩) n cap) n (cellsO E)) R) := by
  have H := Lib.hid h
  have HD := Lib.hid hD
  have HB := Lib.hid hb
  have c1 : IntKind.i64.wrap ((m : Int) - (a : Int)) = (m : Int) - (a : Int) := IntWalk.i64_in _ (by omega)
  have c2 : IntKind.i64.wrap ((b : Int) - (m : Int)) = (b : Int) - (m : Int) := IntWalk.i64_in _ (by omega)
  clear h hD
  go_enter Try.func44, Try.ntmps44
  go_wp2_with fail
  go_loopw [10, 11] (fun iv jv wr => ∃ (i j : Nat) (E : Ords), iv = .int .i64 i ∧ jv = .int .i64 j ∧ RotAt D E a m b i j ∧ Turns F0 w0 wr (star (RowN 28 5 (.slice (some ⟨g, 0, none⟩) n cap) n (cellsO E)) R)) (fun iv jv _ => (intOf iv).toNat + (intOf jv).toNat)
  case atStart => exact ⟨m - a, b - m, D, by congr 1; omega, by congr 1; omega, RotAt.start D ham hmb, H.out⟩
  case round =>
    obtain ⟨i, j, E, rfl, rfl, hr, ht⟩ := hrel
    clear c1 c2 H
    have hE : E.length = n := by rw [hr.perm.length_eq, HD.out]
    have hi := hr.hi; have hj := hr.hj; have hi0 := hr.i0; have hj0 := hr.j0
    have c1 : IntKind.i64.wrap ((m : Int) - (i : Int)) = (m : Int) - (i : Int) := IntWalk.i64_in _ (by omega)
    have c2 : IntKind.i64.wrap ((m : Int) + (j : Int)) = (m : Int) + (j : Int) := IntWalk.i64_in _ (by omega)
    have c3 : IntKind.i64.wrap ((m : Int) + (j : Int) - (i : Int)) = (m : Int) + (j : Int) - (i : Int) := IntWalk.i64_in _ (by omega)
    have c4 : IntKind.i64.wrap ((i : Int) - (j : Int)) = (i : Int) - (j : Int) := IntWalk.i64_in _ (by omega)
    have c5 : IntKind.i64.wrap ((j : Int) - (i : Int)) = (j : Int) - (i : Int) := IntWalk.i64_in _ (by omega)
    rcases Nat.lt_trichotomy i j with hij | hij | hij
    · have K := swapRange_any (m - i) (m + j - i) i fv ht hE hn (by omega) (by omega)
      rw [show ((m - i : Nat) : Int) = (m : Int) - (i : Int) by omega, show ((m + j - i : Nat) : Int) = (m : Int) + (j : Int) - (i : Int) by omega] at K
      have HK := Lib.hid K
      have b1 : ¬ (i : Int) = (j : Int) := by omega
      have b2 : ¬ (j : Int) < (i : Int) := by omega
      have HN := Lib.hid (show ∀ G, SwR E G (m - i) (m + j - i) i → RotAt D G a m b i (j - i) from fun G hw => hr.small hij ham hw)
      clear K ht hr
      go_wp2_with fail
      refine HK.out.mono ?_
      rintro e w2 ⟨rfl, G, hw, ht⟩
      have HT := Lib.hid ht; have HW := Lib.hid hw
      clear ht hw
      go_wp2_with fail
      go_roundw
      case rel => exact ⟨i, j - i, G, rfl, by congr 1; omega, HN.out G HW.out, HT.out⟩
      case measure => simp [intOf]; omega
    · subst hij
      have K := swapRange_any (m - i) m i fv ht hE hn (by omega) (by omega)
      rw [show ((m - i : Nat) : Int) = (m : Int) - (i : Int) by omega] at K
      have HK := Lib.hid K
      have HN := Lib.hid (show ∀ G, SwR E G (m - i) m i → RotR D G a m b from fun G hw => hr.done ham hmb (by rw [HD.out]; exact HB.out) hw)
      clear K ht hr
      go_wp2_with fail
      refine HK.out.mono ?_
      rintro e w2 ⟨rfl, G, hw, ht⟩
      have HT := Lib.hid ht; have HW := Lib.hid hw
      clear ht hw
      go_wp2_with fail
      go_end0
      exact ⟨rfl, G, HN.out G HW.out, HT.out⟩
    · have K := swapRange_any (m - i) m j fv ht hE hn (by omega) (by omega)
      rw [show ((m - i : Nat) : Int) = (m : Int) - (i : Int) by omega] at K
      have HK := Lib.hid K
      have b1 : ¬ (i : Int) = (j : Int) := by omega
      have b2 : (j : Int) < (i : Int) := by omega
      have HN := Lib.hid (show ∀ G, SwR E G (m - i) m j → RotAt D G a m b (i - j) j from fun G hw => hr.big hij ham hw)
      clear K ht hr
      go_wp2_with fail
      refine HK.out.mono ?_
      rintro e w2 ⟨rfl, G, hw, ht⟩
      have HT := Lib.hid ht; have HW := Lib.hid hw
      clear ht hw
      go_wp2_with fail
      go_roundw
      case rel => exact ⟨i - j, j, G, by congr 1; omega, rfl, HN.out G HW.out, HT.out⟩
      case measure => simp [intOf]; omega
end Go.Proofs.Ytkbebllkjmccoaa
