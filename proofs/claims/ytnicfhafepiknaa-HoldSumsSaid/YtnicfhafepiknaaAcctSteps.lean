/- How the arguments of layer 6's laws lie in memory: rows of numbers, rows of steps (a bool, two ints and a number each). Conditions: they were read as data. -/
import Derived.Test.YtnicfhafepiknaaView
import Derived.Test.YtnicfhafepiknaaAcctApi
namespace Go.Proofs.Ytnicfhafepiknaa
open Go.ChangeShapes Go.WideShapes Go.ChangeAt Go.RowKit Go.Deep

/-- A row of numbers lies in memory. -/
def NumsIn (w : World) (A : Option Addr) (l : List Int) : Prop := l = [] ∨ ∃ b off : Nat, A = some ⟨b, off, none⟩ ∧ b < w.heap.size ∧ ∀ i (h : i < l.length), w.cell? ⟨b, off + i, none⟩ = some (.int .u64 l[i]) ∧ U64 l[i]
theorem NumsIn.at {w : World} {A : Option Addr} {l : List Int} (h : NumsIn w A l) {i : Nat} (hi : i < l.length) : ∃ b off, A = some ⟨b, off, none⟩ ∧ b < w.heap.size ∧ w.cell? ⟨b, off + i, none⟩ = some (.int .u64 l[i]) ∧ U64 l[i] := by
  rcases h with rfl | ⟨b, off, hA, hlt, hc⟩
  · cases hi
  · exact ⟨b, off, hA, hlt, hc i hi⟩
/-- A step of a row that came in. -/
structure MoveV where
  take : Bool
  c : Int
  s : Int
  n : Int
instance : Inhabited MoveV := ⟨⟨false, 0, 0, 0⟩⟩
def MoveV.ok (p : MoveV) : Prop := I64 p.c ∧ I64 p.s ∧ U64 p.n
def MovesAt (w : World) (A : Option Addr) (ps : List MoveV) : Prop :=
  ps = [] ∨ ∃ b off : Nat, A = some ⟨b, off, none⟩ ∧ b < w.heap.size ∧ ∀ i (h : i < ps.length), w.cell? ⟨b, off + i * 4, none⟩ = some (.bool ps[i].take) ∧ w.cell? ⟨b, off + i * 4 + 1, none⟩ = some (.int .i64 ps[i].c) ∧
    w.cell? ⟨b, off + i * 4 + 2, none⟩ = some (.int .i64 ps[i].s) ∧ w.cell? ⟨b, off + i * 4 + 3, none⟩ = some (.int .u64 ps[i].n) ∧ ps[i].ok
theorem MovesAt.at {w : World} {A : Option Addr} {ps : List MoveV} (h : MovesAt w A ps) {i : Nat} (hi : i < ps.length) : ∃ b off : Nat, A = some ⟨b, off, none⟩ ∧ b < w.heap.size ∧ w.cell? ⟨b, off + i * 4, none⟩ = some (.bool ps[i].take) ∧ w.cell? ⟨b, off + i * 4 + 1, none⟩ = some (.int .i64 ps[i].c) ∧
    w.cell? ⟨b, off + i * 4 + 2, none⟩ = some (.int .i64 ps[i].s) ∧ w.cell? ⟨b, off + i * 4 + 3, none⟩ = some (.int .u64 ps[i].n) ∧ ps[i].ok := by
  rcases h with rfl | ⟨b, off, hA, hlt, hc⟩
  · cases hi
  · exact ⟨b, off, hA, hlt, hc i hi⟩
section
variable {H : Type} {enc : TypeId × Value → H} {P : Program} {w : World} {fuel : Nat} {x : DataW H × List MemPlace} {v : Value}
theorem nums_view {t e : TypeId} (ht : P.underlying t = some (.slice e)) (he : P.underlying e = some (.int .u64)) (hc : P.cellsOf e = 1) (h : DataW.trod enc P w 0 (fun _ => true) true fuel t [v] = some x) :
    ∃ (A : Option Addr) (cap : Nat) (l : List Int), v = .slice A l.length cap ∧ l.length ≤ 9223372036854775807 ∧ NumsIn w A l := by
  rcases open_ints ht he hc h with ⟨hcs, _⟩ | ⟨a, len, cap, zs, hcs, _, hl, hm, hz, _, hcell, hwz⟩
  · exact ⟨none, 0, [], by simpa using hcs, by decide, Or.inl rfl⟩
  · simp only [List.cons.injEq, and_true] at hcs
    subst hcs
    simp only [if_true] at hz
    have hlen : (zs.take len).length = len := by rw [List.length_take]; omega
    refine ⟨some a, cap, zs.take len, by rw [hlen], by rw [hlen]; unfold maxLen at hm; omega, ?_⟩
    by_cases h0 : len = 0
    · subst h0; exact Or.inl (by simp)
    · have hb : a.block < w.heap.size := by
        have := World.block_lt_of_cell? w (a.add 0) (hcell 0 (by omega))
        rwa [block_add] at this
      obtain ⟨b, off, spot⟩ := a
      have hspot : spot = none := by simpa [Addr.add] using World.cell?_spot (hcell 0 (by omega))
      subst hspot
      refine Or.inr ⟨b, off, rfl, hb, fun i hi => ?_⟩
      rw [hlen] at hi
      have e := hcell i (by omega)
      rw [add_plain] at e
      have hw := hwz _ (List.getElem_mem (show i < zs.length by omega))
      simp [Lit.wf, IntKind.min, IntKind.max, IntKind.signed, IntKind.bits] at hw
      have e2 : (zs.take len)[i]'(by omega) = zs[i]'(by omega) := by simp
      rw [e, e2]
      refine ⟨by simp [List.getD, List.getElem?_eq_getElem (show i < zs.length by omega)], ⟨by omega, by omega⟩⟩
theorem moves_view {t e tb ti tn : TypeId} {fs : Array Field} (ht : P.underlying t = some (.slice e)) (he : P.underlying e = some (.struct fs)) (hone : oneCellFields P fs = true) (hC : P.cellsOf e = 4)
    (hf : fs.map (·.type) = #[tb, ti, ti, tn]) (hb' : P.underlying tb = some .bool) (h0 : P.underlying ti = some (.int .i64)) (h2 : P.underlying tn = some (.int .u64))
    (h : DataW.trod enc P w 0 (fun _ => true) true fuel t [v] = some x) :
    ∃ (A : Option Addr) (cap : Nat) (ps : List MoveV), v = .slice A ps.length cap ∧ ps.length ≤ 9223372036854775807 ∧ MovesAt w A ps := by
  rcases open_slice ht h with ⟨hcs, _⟩ | ⟨a, len, cap, m, n, D, Pl, hcs, _, hl, hm, hmm, _, hi⟩
  · exact ⟨none, 0, [], by simpa using hcs, by decide, Or.inl rfl⟩
  · simp only [List.cons.injEq, and_true] at hcs
    subst hcs
    simp only [if_true] at hmm
    subst hmm
    have hsz : fs.size = 4 := by have := congrArg Array.size hf; simpa using this
    have each : ∀ i, i < len → ∃ p : MoveV, w.cell? (a.add (i * 4)) = some (.bool p.take) ∧ w.cell? (a.add (i * 4 + 1)) = some (.int .i64 p.c) ∧ w.cell? (a.add (i * 4 + 2)) = some (.int .i64 p.s) ∧ w.cell? (a.add (i * 4 + 3)) = some (.int .u64 p.n) ∧ p.ok := by
      intro i hil
      obtain ⟨cs', hc, hst⟩ := hi i (by omega)
      obtain ⟨ys, n', _, _, hlen, _, hfld⟩ := DataW.trod_struct he hst
      obtain ⟨_, _, hat⟩ := World.cells?_some hc
      rw [hC] at hlen hat
      match cs', hlen with
      | [c0, c1, c2, c3], _ =>
        have g : ∀ (j : Nat) (hj : j < 4) (tj : TypeId), (fs.map (·.type))[j]? = some tj → ∃ y, DataW.trod enc P w 0 (fun _ => true) true n' tj [[c0, c1, c2, c3][j]] = some y := by
          intro j hj tj htj
          rw [Array.getElem?_map] at htj
          have hjs : fs[j]? = some (fs[j]'(by omega)) := Array.getElem?_eq_getElem (by omega)
          rw [hjs] at htj
          simp only [Option.map_some, Option.some.injEq] at htj
          obtain ⟨ho, hk⟩ := hone_of hone j _ hjs
          have e := hfld j _ hjs
          rw [ho, hk, htj] at e
          have hys : ∃ y, ys[j]? = some y := ⟨ys[j]'(by omega), List.getElem?_eq_getElem (by omega)⟩
          obtain ⟨y, hy⟩ := hys
          rw [hy] at e
          refine ⟨y, ?_⟩
          rw [← e]
          have : j = 0 ∨ j = 1 ∨ j = 2 ∨ j = 3 := by omega
          rcases this with rfl | rfl | rfl | rfl <;> rfl
        rw [hf] at g
        obtain ⟨y0, q0⟩ := g 0 (by omega) tb rfl
        obtain ⟨y1, q1⟩ := g 1 (by omega) ti rfl
        obtain ⟨y2, q2⟩ := g 2 (by omega) ti rfl
        obtain ⟨y3, q3⟩ := g 3 (by omega) tn rfl
        obtain ⟨z0, e0, _⟩ := DataW.trod_bool hb' q0
        obtain ⟨z1, e1, _, w1⟩ := DataW.trod_int h0 q1
        obtain ⟨z2, e2, _, w2⟩ := DataW.trod_int h0 q2
        obtain ⟨z3, e3, _, w3⟩ := DataW.trod_int h2 q3
        simp only [List.getElem_cons_zero, List.getElem_cons_succ, List.cons.injEq, and_true] at e0 e1 e2 e3
        simp [Lit.wf, IntKind.min, IntKind.max, IntKind.signed, IntKind.bits] at w1 w2 w3
        refine ⟨⟨z0, z1, z2, z3⟩, ?_, ?_, ?_, ?_, ⟨by show -9223372036854775808 ≤ z1; omega, by show z1 < 9223372036854775808; omega⟩, ⟨by show -9223372036854775808 ≤ z2; omega, by show z2 < 9223372036854775808; omega⟩, ⟨by show 0 ≤ z3; omega, by show z3 < 18446744073709551616; omega⟩⟩
        · have := hat 0 (by omega); rw [Deep.add_add, Nat.add_zero] at this; rw [this]; simp [e0]
        · have := hat 1 (by omega); rw [Deep.add_add] at this; rw [this]; simp [e1]
        · have := hat 2 (by omega); rw [Deep.add_add] at this; rw [this]; simp [e2]
        · have := hat 3 (by omega); rw [Deep.add_add] at this; rw [this]; simp [e3]
    obtain ⟨V, hV⟩ := choose_lt (α := MoveV) (n := len) (p := fun i p => w.cell? (a.add (i * 4)) = some (.bool p.take) ∧ w.cell? (a.add (i * 4 + 1)) = some (.int .i64 p.c) ∧ w.cell? (a.add (i * 4 + 2)) = some (.int .i64 p.s) ∧ w.cell? (a.add (i * 4 + 3)) = some (.int .u64 p.n) ∧ p.ok) each
    refine ⟨some a, m, (List.range len).map V, by simp, by simp only [List.length_map, List.length_range]; unfold maxLen at hm; omega, ?_⟩
    by_cases hz : len = 0
    · subst hz; exact Or.inl (by simp)
    · have hb : a.block < w.heap.size := by
        have := World.block_lt_of_cell? w _ (hV 0 (by omega)).1
        rwa [block_add] at this
      obtain ⟨b, off, spot⟩ := a
      have hspot : spot = none := by
        have := World.cell?_spot (hV 0 (by omega)).1
        simpa [Addr.add] using this
      subst hspot
      refine Or.inr ⟨b, off, rfl, hb, fun i hil => ?_⟩
      simp only [List.length_map, List.length_range] at hil
      have := hV i hil
      rw [add_plain, add_plain, add_plain, add_plain, ← Nat.add_assoc, ← Nat.add_assoc, ← Nat.add_assoc] at this
      simpa using this
end
end Go.Proofs.Ytnicfhafepiknaa
