/- How a row of steps (three ints and a row of bytes each) lies in memory. Conditions: it was read as data. -/
import Derived.Test.YtdhnpbfoeohhmaaView
import Derived.Test.YtdhnpbfoeohhmaaRising
namespace Go.Proofs.Ytdhnpbfoeohhmaa
open Go.ChangeShapes Go.WideShapes Go.ChangeAt Go.RowKit Go.Deep

/-- A step of a row that came in. -/
structure StepV where
  kind : Int
  a : Int
  b : Int
  A : Option Addr
  cap : Nat
  t : List UInt8
instance : Inhabited StepV := ⟨⟨0, 0, 0, none, 0, []⟩⟩
def StepV.ok (w : World) (p : StepV) : Prop := I64 p.kind ∧ I64 p.a ∧ I64 p.b ∧ p.t.length ≤ p.cap ∧ p.cap ≤ 9223372036854775807 ∧ (p.A = none → p.cap = 0) ∧ Lie8 w (fun _ => False) p.A p.t
def StepsAt (w : World) (A : Option Addr) (ps : List StepV) : Prop :=
  ps = [] ∨ ∃ b off : Nat, A = some ⟨b, off, none⟩ ∧ b < w.heap.size ∧ ∀ i (h : i < ps.length), w.cell? ⟨b, off + i * 4, none⟩ = some (.int .i64 ps[i].kind) ∧ w.cell? ⟨b, off + i * 4 + 1, none⟩ = some (.int .i64 ps[i].a) ∧
    w.cell? ⟨b, off + i * 4 + 2, none⟩ = some (.int .i64 ps[i].b) ∧ w.cell? ⟨b, off + i * 4 + 3, none⟩ = some (.slice ps[i].A ps[i].t.length ps[i].cap) ∧ ps[i].ok w

section
variable {H : Type} {enc : TypeId × Value → H} {P : Program} {w : World} {fuel : Nat} {x : DataW H × List MemPlace} {v : Value}
theorem steps_view {t e ti tb t8 : TypeId} {fs : Array Field} (ht : P.underlying t = some (.slice e)) (he : P.underlying e = some (.struct fs)) (hone : oneCellFields P fs = true) (hC : P.cellsOf e = 4)
    (hf : fs.map (·.type) = #[ti, ti, ti, tb]) (h0 : P.underlying ti = some (.int .i64)) (h2 : P.underlying tb = some (.slice t8)) (h8 : P.underlying t8 = some (.int .u8)) (hc8 : P.cellsOf t8 = 1)
    (h : DataW.trod enc P w 0 (fun _ => true) true fuel t [v] = some x) :
    ∃ (A : Option Addr) (cap : Nat) (ps : List StepV), v = .slice A ps.length cap ∧ ps.length ≤ 9223372036854775807 ∧ StepsAt w A ps := by
  rcases open_slice ht h with ⟨hcs, _⟩ | ⟨a, len, cap, m, n, D, Pl, hcs, _, hl, hm, hmm, _, hi⟩
  · exact ⟨none, 0, [], by simpa using hcs, by decide, Or.inl rfl⟩
  · simp only [List.cons.injEq, and_true] at hcs
    subst hcs
    simp only [if_true] at hmm
    subst hmm
    have hsz : fs.size = 4 := by have := congrArg Array.size hf; simpa using this
    have each : ∀ i, i < len → ∃ p : StepV, w.cell? (a.add (i * 4)) = some (.int .i64 p.kind) ∧ w.cell? (a.add (i * 4 + 1)) = some (.int .i64 p.a) ∧ w.cell? (a.add (i * 4 + 2)) = some (.int .i64 p.b) ∧ w.cell? (a.add (i * 4 + 3)) = some (.slice p.A p.t.length p.cap) ∧ p.ok w := by
      intro i hil
      obtain ⟨cs', hc, hst⟩ := hi i (by omega)
      obtain ⟨ys, n', _, _, hlen, _, hfld⟩ := DataW.trod_struct he hst
      obtain ⟨_, _, hat⟩ := World.cells?_some hc
      rw [hC] at hlen hat
      match cs', hlen with
      | [c0, c1, c2, c3], _ =>
        have g : ∀ (j : Nat) (hj : j < 4) (tj : TypeId), (fs.map (·.type))[j]? = some tj → ∃ y, DataW.trod enc P w 0 (fun _ => true) true n' tj [[c0, c1, c2, c3][j]] = some y := by
          intro j hj tj htj
          rw [Array.getElem?_map] at htj
          have hjs : fs[j]? = some (fs[j]'(by omega)) := Array.getElem?_eq_getElem (by omega)
          rw [hjs] at htj
          simp only [Option.map_some, Option.some.injEq] at htj
          obtain ⟨ho, hk⟩ := hone_of hone j _ hjs
          have e := hfld j _ hjs
          rw [ho, hk, htj] at e
          have hys : ∃ y, ys[j]? = some y := ⟨ys[j]'(by omega), List.getElem?_eq_getElem (by omega)⟩
          obtain ⟨y, hy⟩ := hys
          rw [hy] at e
          refine ⟨y, ?_⟩
          rw [← e]
          have : j = 0 ∨ j = 1 ∨ j = 2 ∨ j = 3 := by omega
          rcases this with rfl | rfl | rfl | rfl <;> rfl
        rw [hf] at g
        obtain ⟨y0, q0⟩ := g 0 (by omega) ti rfl
        obtain ⟨y1, q1⟩ := g 1 (by omega) ti rfl
        obtain ⟨y2, q2⟩ := g 2 (by omega) ti rfl
        obtain ⟨y3, q3⟩ := g 3 (by omega) tb rfl
        obtain ⟨z0, e0, _, w0⟩ := DataW.trod_int h0 q0
        obtain ⟨z1, e1, _, w1⟩ := DataW.trod_int h0 q1
        obtain ⟨z2, e2, _, w2⟩ := DataW.trod_int h0 q2
        obtain ⟨A2, cap2, l2, e3, k2, k3, k4, k5⟩ := bytes_view h2 h8 hc8 q3
        simp only [List.getElem_cons_zero, List.getElem_cons_succ, List.cons.injEq, and_true] at e0 e1 e2 e3
        simp [Lit.wf, IntKind.min, IntKind.max, IntKind.signed, IntKind.bits] at w0 w1 w2
        refine ⟨⟨z0, z1, z2, A2, cap2, l2⟩, ?_, ?_, ?_, ?_, ⟨by show -9223372036854775808 ≤ z0; omega, by show z0 < 9223372036854775808; omega⟩, ⟨by show -9223372036854775808 ≤ z1; omega, by show z1 < 9223372036854775808; omega⟩, ⟨by show -9223372036854775808 ≤ z2; omega, by show z2 < 9223372036854775808; omega⟩, k2, k3, k4, k5⟩
        · have := hat 0 (by omega); rw [Deep.add_add, Nat.add_zero] at this; rw [this]; simp [e0]
        · have := hat 1 (by omega); rw [Deep.add_add] at this; rw [this]; simp [e1]
        · have := hat 2 (by omega); rw [Deep.add_add] at this; rw [this]; simp [e2]
        · have := hat 3 (by omega); rw [Deep.add_add] at this; rw [this]; simp [e3]
    obtain ⟨V, hV⟩ := choose_lt (α := StepV) (n := len) (p := fun i p => w.cell? (a.add (i * 4)) = some (.int .i64 p.kind) ∧ w.cell? (a.add (i * 4 + 1)) = some (.int .i64 p.a) ∧ w.cell? (a.add (i * 4 + 2)) = some (.int .i64 p.b) ∧ w.cell? (a.add (i * 4 + 3)) = some (.slice p.A p.t.length p.cap) ∧ p.ok w) each
    refine ⟨some a, m, (List.range len).map V, by simp, by simp only [List.length_map, List.length_range]; unfold maxLen at hm; omega, ?_⟩
    by_cases hz : len = 0
    · subst hz; exact Or.inl (by simp)
    · have hb : a.block < w.heap.size := by
        have := World.block_lt_of_cell? w _ (hV 0 (by omega)).1
        rwa [block_add] at this
      obtain ⟨b, off, spot⟩ := a
      have hspot : spot = none := by
        have := World.cell?_spot (hV 0 (by omega)).1
        simpa [Addr.add] using this
      subst hspot
      refine Or.inr ⟨b, off, rfl, hb, fun i hil => ?_⟩
      simp only [List.length_map, List.length_range] at hil
      have := hV i hil
      rw [add_plain, add_plain, add_plain, add_plain, ← Nat.add_assoc, ← Nat.add_assoc, ← Nat.add_assoc] at this
      simpa using this
end
/-- One step's cells. -/
theorem StepsAt.at {w : World} {A : Option Addr} {ps : List StepV} (h : StepsAt w A ps) {i : Nat} (hi : i < ps.length) : ∃ b off : Nat, A = some ⟨b, off, none⟩ ∧ b < w.heap.size ∧ w.cell? ⟨b, off + i * 4, none⟩ = some (.int .i64 ps[i].kind) ∧ w.cell? ⟨b, off + i * 4 + 1, none⟩ = some (.int .i64 ps[i].a) ∧
    w.cell? ⟨b, off + i * 4 + 2, none⟩ = some (.int .i64 ps[i].b) ∧ w.cell? ⟨b, off + i * 4 + 3, none⟩ = some (.slice ps[i].A ps[i].t.length ps[i].cap) ∧ ps[i].ok w := by
  rcases h with rfl | ⟨b, off, hA, hlt, hc⟩
  · cases hi
  · exact ⟨b, off, hA, hlt, hc i hi⟩
end Go.Proofs.Ytdhnpbfoeohhmaa
