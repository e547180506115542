/- Two orders are told alike by == and != just if they are. Conditions: good numbers. -/
import Derived.Test.YtkbebllkjmccoaaPrioApi
import Derived.Test.YtkbebllkjmccoaaBlk
import Derived.WalkSpells
import Derived.StillTactics
import Derived.Outline
import Derived.Deep.QuietTactic
import Derived.BigQuiet
import Derived.IntWalk
import Derived.WalkSmall
import Derived.WalkKit
import Derived.DeepKeys
import Derived.WalkArith
namespace Go.Proofs.Ytkbebllkjmccoaa
open Go.RowKit Go.WideShapes
theorem lit_i {n : Int} (h : I64 n) : Try.prog.keyLits 1 3 [.int .i64 n] = some [.int .i64 n] := by
  have hw : (Lit.int .i64 n).wf = true := WalkArith.wf_i64 (by have := h.1; have := h.2; omega)
  unfold Program.keyLits
  rw [Try.underlying3]
  simp [hw]
theorem lit_u {n : Int} (h : U64 n) : Try.prog.keyLits 1 26 [.int .u64 n] = some [.int .u64 n] := by
  have hw : (Lit.int .u64 n).wf = true := by simp [Lit.wf, IntKind.min, IntKind.max, IntKind.signed, IntKind.bits]; omega
  unfold Program.keyLits
  rw [Try.underlying26]
  simp [hw]
theorem lit_b (x : Bool) : Try.prog.keyLits 1 4 [.bool x] = some [.bool x] := by
  unfold Program.keyLits
  rw [Try.underlying4]
theorem lits_ord {o : OrdV} (ho : o.ok) : Try.prog.keyLits 2 28 o.cells = some [.int .i64 o.id, .int .i64 o.cl, .bool o.buy, .int .u64 o.price, .int .u64 o.qty] := by
  have h1 := lit_i ho.1
  have h2 := lit_i ho.2.1
  have h3 := lit_b o.buy
  have h4 := lit_u ho.2.2.1
  have h5 := lit_u ho.2.2.2
  have c1 : Try.prog.cellsOf 3 = 1 := by kernel_rfl
  have c2 : Try.prog.cellsOf 4 = 1 := by kernel_rfl
  have c3 : Try.prog.cellsOf 26 = 1 := by kernel_rfl
  have c4 : Try.prog.cellsOf 28 = 5 := by kernel_rfl
  unfold Program.keyLits
  rw [Try.underlying28]
  simp [OrdV.cells, c1, c2, c3, c4, h1, h2, h3, h4, h5]
theorem formed_ord (o : OrdV) : o.val.formed Try.prog 28 = true := by
  have c4 : Try.prog.cellsOf 28 = 5 := by kernel_rfl
  unfold Value.formed OrdV.val
  rw [Try.underlying28]
  simp [c4]
theorem equal_ord {a b : OrdV} (ha : a.ok) (hb : b.ok) (w : World) : (Op.equal 28 a.val b.val).run Try.prog w = .ok (decide (a = b)) w := by
  obtain ⟨r, hr, hiff⟩ := run_equalIn_deep (P := Try.prog) 9998 2 28 (by kernel_rfl) w 2 2 a.val b.val _ _ (formed_ord a) (formed_ord b) (lits_ord ha) (lits_ord hb)
  have e : r = decide (a = b) := by
    have : (r = true ↔ a = b) := hiff.trans (by
      obtain ⟨a1, a2, a3, a4, a5⟩ := a
      obtain ⟨b1, b2, b3, b4, b5⟩ := b
      simp)
    by_cases h : a = b
    · rw [decide_eq_true h]; exact this.2 h
    · rw [decide_eq_false h]; cases hr2 : r
      · rfl
      · exact absurd (this.1 hr2) h
  rw [← e]
  exact hr
theorem eql_ord {a b : OrdV} (ha : a.ok) (hb : b.ok) (w : World) : (binOp .eql 28 a.val b.val).run Try.prog w = .ok (.bool (decide (a = b))) w := by
  have h := equal_ord ha hb w
  simp only [OrdV.val] at h ⊢
  simp [binOp, h, Result.andThen]
theorem neq_ord {a b : OrdV} (ha : a.ok) (hb : b.ok) (w : World) : (binOp .neq 28 a.val b.val).run Try.prog w = .ok (.bool (!decide (a = b))) w := by
  have h := equal_ord ha hb w
  simp only [OrdV.val] at h ⊢
  simp [binOp, h, Result.andThen]
end Go.Proofs.Ytkbebllkjmccoaa
