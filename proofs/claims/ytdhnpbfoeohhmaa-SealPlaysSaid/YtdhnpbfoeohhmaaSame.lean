/- Two rows of bytes are held against each other. Conditions: they lie in memory. -/
import Derived.Test.YtdhnpbfoeohhmaaRising
import Derived.Test.YtdhnpbfoeohhmaaB8
import Derived.WalkKit
import Derived.WalkSpells
import Derived.StillTactics
import Derived.Outline
namespace Go.Proofs.Ytdhnpbfoeohhmaa
open Go.RowKit Go.WideShapes

theorem bytes_eq {s t : List UInt8} {x y : ByteArray} (hx : x = ⟨s.toArray⟩) (hy : y = ⟨t.toArray⟩) : (x.toList == y.toList) = decide (s = t) := by
  subst hx; subst hy
  rw [ByteArray.toList_eq, ByteArray.toList_eq, Bool.eq_iff_iff]
  simp
set_option maxRecDepth 100000 in
theorem bsame_any {w : World} {A B : Option Addr} {n m cap capb : Nat} {l t : List UInt8} (hl : Lie8 w (fun _ => False) A l) (ht : Lie8 w (fun _ => False) B t) (hn : l.length = n) (hm : t.length = m) (hA : A = none → n = 0) (hB : B = none → m = 0) :
    Calls Try.prog 12 #[.slice A n cap, .slice B m capb] w fun e w' => e = .returned (.bool (decide (l = t))) ∧ w' = w := by
  have c1 := conv8 (P := Try.prog) (src := 23) (dst := 9) (cap := cap) Try.underlying23 Try.underlying5 Try.underlying9 hn hA hl
  have c2 := conv8 (P := Try.prog) (src := 23) (dst := 9) (cap := capb) Try.underlying23 Try.underlying5 Try.underlying9 hm hB ht
  obtain ⟨x, hx⟩ : ∃ x : ByteArray, x = ⟨l.toArray⟩ := ⟨_, rfl⟩
  obtain ⟨y, hy⟩ : ∃ y : ByteArray, y = ⟨t.toArray⟩ := ⟨_, rfl⟩
  rw [← hx] at c1; rw [← hy] at c2
  have he := bytes_eq hx hy
  obtain ⟨q, hq⟩ : ∃ q, decide (l = t) = q := ⟨_, rfl⟩
  rw [hq] at he ⊢
  clear hl ht hA hB hx hy hq
  go_enter Try.func12, Try.ntmps12
  go_wp2_with fail
  go_ret
  exact ⟨rfl, rfl⟩
end Go.Proofs.Ytdhnpbfoeohhmaa
