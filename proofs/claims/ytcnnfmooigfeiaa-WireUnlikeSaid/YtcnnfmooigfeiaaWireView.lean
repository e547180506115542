/- How the arguments of layer 2's laws lie in memory: rows of bytes, rows of ints, rows of rows of bytes, rows of parts. Conditions: they were read as data. -/
import Derived.Test.YtcnnfmooigfeiaaWireLong
import Derived.Test.YtcnnfmooigfeiaaLaw
import Derived.Deep.Slices
import Derived.Deep.Fields
namespace Go.Proofs.Ytcnnfmooigfeiaa
open Go.ChangeShapes Go.WideShapes Go.ChangeAt Go.RowKit Go.Deep

section
variable {H : Type} {enc : TypeId × Value → H} {P : Program} {w : World} {fuel : Nat} {x : DataW H × List MemPlace} {v : Value}

/-- A row of bytes that came in. -/
theorem bytes_view {t e : TypeId} (ht : P.underlying t = some (.slice e)) (he : P.underlying e = some (.int .u8)) (hc : P.cellsOf e = 1) (h : DataW.trod enc P w 0 (fun _ => true) true fuel t [v] = some x) :
    ∃ (A : Option Addr) (cap : Nat) (l : List UInt8), v = .slice A l.length cap ∧ l.length ≤ cap ∧ cap ≤ 9223372036854775807 ∧ (A = none → cap = 0) ∧ Lie8 w (fun _ => False) A l := by
  rcases open_ints ht he hc h with ⟨hcs, _⟩ | ⟨a, len, cap, zs, hcs, _, hl, hm, hz, _, hcell, hwz⟩
  · exact ⟨none, 0, [], by simpa using hcs, Nat.le_refl _, by decide, fun _ => rfl, Or.inl rfl⟩
  · simp only [List.cons.injEq, and_true] at hcs
    subst hcs
    simp only [if_true] at hz
    have hlen : ((zs.take len).map fun n => UInt8.ofNat n.toNat).length = len := by rw [List.length_map, List.length_take]; omega
    refine ⟨some a, cap, (zs.take len).map fun n => UInt8.ofNat n.toNat, by rw [hlen], by rw [hlen]; exact hl, by unfold maxLen at hm; omega, (fun h => by cases h), ?_⟩
    by_cases h0 : len = 0
    · subst h0; exact Or.inl (by simp)
    · have hb : a.block < w.heap.size := by
        have := World.block_lt_of_cell? w (a.add 0) (hcell 0 (by omega))
        rwa [block_add] at this
      refine Or.inr ⟨a, rfl, hb, (fun h => h), fun j hj => ?_⟩
      rw [hlen] at hj
      have hjz : j < zs.length := by omega
      rw [hcell j hjz]
      have hw := hwz (zs[j]) (List.getElem_mem hjz)
      simp [Lit.wf, IntKind.min, IntKind.max, IntKind.signed, IntKind.bits] at hw
      have e1 : zs.getD j 0 = zs[j] := by simp [List.getD, List.getElem?_eq_getElem hjz]
      rw [e1]
      simp only [List.getElem_map, List.getElem_take]
      generalize zs[j] = z at hw ⊢
      congr 2
      rw [UInt8.toNat_ofNat']
      omega

instance : Inhabited PartV := ⟨⟨0, 0, none, 0, []⟩⟩
/-- A row of parts that came in. -/
theorem parts_view {t e tb t0 t1 t8 : TypeId} {fs : Array Field} (ht : P.underlying t = some (.slice e)) (he : P.underlying e = some (.struct fs)) (hone : oneCellFields P fs = true) (hC : P.cellsOf e = 3)
    (hf : fs.map (·.type) = #[t0, t1, tb]) (h0 : P.underlying t0 = some (.int .i64)) (h1 : P.underlying t1 = some (.int .u64)) (h2 : P.underlying tb = some (.slice t8)) (h8 : P.underlying t8 = some (.int .u8)) (hc8 : P.cellsOf t8 = 1)
    (h : DataW.trod enc P w 0 (fun _ => true) true fuel t [v] = some x) :
    ∃ (A : Option Addr) (cap : Nat) (ps : List PartV), v = .slice A ps.length cap ∧ ps.length ≤ 9223372036854775807 ∧ PartsAt w A ps := by
  rcases open_slice ht h with ⟨hcs, _⟩ | ⟨a, len, cap, m, n, D, Pl, hcs, _, hl, hm, hmm, _, hi⟩
  · exact ⟨none, 0, [], by simpa using hcs, by decide, Or.inl rfl⟩
  · simp only [List.cons.injEq, and_true] at hcs
    subst hcs
    simp only [if_true] at hmm
    subst hmm
    have hsz : fs.size = 3 := by have := congrArg Array.size hf; simpa using this
    have each : ∀ i, i < len → ∃ p : PartV, w.cell? (a.add (i * 3)) = some (.int .i64 p.kind) ∧ w.cell? (a.add (i * 3 + 1)) = some (.int .u64 p.n) ∧ w.cell? (a.add (i * 3 + 2)) = some (.slice p.A p.t.length p.cap) ∧ p.ok w := by
      intro i hil
      obtain ⟨cs', hc, hst⟩ := hi i (by omega)
      obtain ⟨ys, n', _, _, hlen, _, hfld⟩ := DataW.trod_struct he hst
      obtain ⟨_, _, hat⟩ := World.cells?_some hc
      rw [hC] at hlen hat
      match cs', hlen with
      | [c0, c1, c2], _ =>
        have g : ∀ (j : Nat) (hj : j < 3) (tj : TypeId), (fs.map (·.type))[j]? = some tj → ∃ y, DataW.trod enc P w 0 (fun _ => true) true n' tj [[c0, c1, c2][j]] = some y := by
          intro j hj tj htj
          rw [Array.getElem?_map] at htj
          have hjs : fs[j]? = some (fs[j]'(by omega)) := Array.getElem?_eq_getElem (by omega)
          rw [hjs] at htj
          simp only [Option.map_some, Option.some.injEq] at htj
          obtain ⟨ho, hk⟩ := hone_of hone j _ hjs
          have e := hfld j _ hjs
          rw [ho, hk, htj] at e
          have hys : ∃ y, ys[j]? = some y := ⟨ys[j]'(by omega), List.getElem?_eq_getElem (by omega)⟩
          obtain ⟨y, hy⟩ := hys
          rw [hy] at e
          refine ⟨y, ?_⟩
          rw [← e]
          have : j = 0 ∨ j = 1 ∨ j = 2 := by omega
          rcases this with rfl | rfl | rfl <;> rfl
        rw [hf] at g
        obtain ⟨y0, q0⟩ := g 0 (by omega) t0 rfl
        obtain ⟨y1, q1⟩ := g 1 (by omega) t1 rfl
        obtain ⟨y2, q2⟩ := g 2 (by omega) tb rfl
        obtain ⟨z0, e0, _, w0⟩ := DataW.trod_int h0 q0
        obtain ⟨z1, e1, _, w1⟩ := DataW.trod_int h1 q1
        obtain ⟨A2, cap2, l2, e2, k2, k3, k4, k5⟩ := bytes_view h2 h8 hc8 q2
        simp only [List.getElem_cons_zero, List.getElem_cons_succ, List.cons.injEq, and_true] at e0 e1 e2
        simp [Lit.wf, IntKind.min, IntKind.max, IntKind.signed, IntKind.bits] at w0 w1
        refine ⟨⟨z0, z1, A2, cap2, l2⟩, ?_, ?_, ?_, by show -9223372036854775808 ≤ z0; omega, by show z0 < 9223372036854775808; omega, ⟨by show 0 ≤ z1; omega, by show z1 < 18446744073709551616; omega⟩, k2, k3, k4, k5⟩
        · have := hat 0 (by omega); rw [Deep.add_add, Nat.add_zero] at this; rw [this]; simp [e0]
        · have := hat 1 (by omega); rw [Deep.add_add] at this; rw [this]; simp [e1]
        · have := hat 2 (by omega); rw [Deep.add_add] at this; rw [this]; simp [e2]
    obtain ⟨V, hV⟩ := choose_lt (α := PartV) (n := len) (p := fun i p => w.cell? (a.add (i * 3)) = some (.int .i64 p.kind) ∧ w.cell? (a.add (i * 3 + 1)) = some (.int .u64 p.n) ∧ w.cell? (a.add (i * 3 + 2)) = some (.slice p.A p.t.length p.cap) ∧ p.ok w) each
    refine ⟨some a, m, (List.range len).map V, by simp, by simp only [List.length_map, List.length_range]; unfold maxLen at hm; omega, ?_⟩
    by_cases hz : len = 0
    · subst hz; exact Or.inl (by simp)
    · have hb : a.block < w.heap.size := by
        have := World.block_lt_of_cell? w _ (hV 0 (by omega)).1
        rwa [block_add] at this
      obtain ⟨b, off, spot⟩ := a
      have hspot : spot = none := by
        have := World.cell?_spot (hV 0 (by omega)).1
        simpa [Addr.add] using this
      subst hspot
      refine Or.inr ⟨b, off, rfl, hb, fun i hil => ?_⟩
      simp only [List.length_map, List.length_range] at hil
      have := hV i hil
      rw [add_plain, add_plain, add_plain, ← Nat.add_assoc, ← Nat.add_assoc] at this
      simpa using this
end
end Go.Proofs.Ytcnnfmooigfeiaa
