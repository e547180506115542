/- How the arguments of laws lie in memory: rows of bytes, of ints, of rows of bytes. Conditions: they were read as data. -/
import Derived.Test.YtkbebllkjmccoaaFoot
import Derived.Test.YtkbebllkjmccoaaLaw
import Derived.Deep.Slices
import Derived.Deep.Fields
import Derived.Carry
namespace Go.Proofs.Ytkbebllkjmccoaa
open Go.ChangeShapes Go.WideShapes Go.ChangeAt Go.RowKit Go.Deep

section
variable {H : Type} {enc : TypeId × Value → H} {P : Program} {w : World} {fuel : Nat} {x : DataW H × List MemPlace} {v : Value}

/-- A row of bytes that came in. -/
theorem bytes_view {t e : TypeId} (ht : P.underlying t = some (.slice e)) (he : P.underlying e = some (.int .u8)) (hc : P.cellsOf e = 1) (h : DataW.trod enc P w 0 (fun _ => true) true fuel t [v] = some x) :
    ∃ (A : Option Addr) (cap : Nat) (l : List UInt8), v = .slice A l.length cap ∧ l.length ≤ cap ∧ cap ≤ 9223372036854775807 ∧ (A = none → cap = 0) ∧ Lie8 w (fun _ => False) A l := by
  rcases open_ints ht he hc h with ⟨hcs, _⟩ | ⟨a, len, cap, zs, hcs, _, hl, hm, hz, _, hcell, hwz⟩
  · exact ⟨none, 0, [], by simpa using hcs, Nat.le_refl _, by decide, fun _ => rfl, Or.inl rfl⟩
  · simp only [List.cons.injEq, and_true] at hcs
    subst hcs
    simp only [if_true] at hz
    have hlen : ((zs.take len).map fun n => UInt8.ofNat n.toNat).length = len := by rw [List.length_map, List.length_take]; omega
    refine ⟨some a, cap, (zs.take len).map fun n => UInt8.ofNat n.toNat, by rw [hlen], by rw [hlen]; exact hl, by unfold maxLen at hm; omega, (fun h => by cases h), ?_⟩
    by_cases h0 : len = 0
    · subst h0; exact Or.inl (by simp)
    · have hb : a.block < w.heap.size := by
        have := World.block_lt_of_cell? w (a.add 0) (hcell 0 (by omega))
        rwa [block_add] at this
      refine Or.inr ⟨a, rfl, hb, (fun h => h), fun j hj => ?_⟩
      rw [hlen] at hj
      have hjz : j < zs.length := by omega
      rw [hcell j hjz]
      have hw := hwz (zs[j]) (List.getElem_mem hjz)
      simp [Lit.wf, IntKind.min, IntKind.max, IntKind.signed, IntKind.bits] at hw
      have e1 : zs.getD j 0 = zs[j] := by simp [List.getD, List.getElem?_eq_getElem hjz]
      rw [e1]
      simp only [List.getElem_map, List.getElem_take]
      generalize zs[j] = z at hw ⊢
      congr 2
      rw [UInt8.toNat_ofNat']
      omega

end
/-- A row of ints that came in. -/
theorem ints_view {H : Type} {enc : TypeId × Value → H} {P : Program} {w : World} {fuel : Nat} {x : DataW H × List MemPlace} {v : Value} {t e : TypeId} (ht : P.underlying t = some (.slice e)) (he : P.underlying e = some (.int .i64)) (hc : P.cellsOf e = 1)
    (h : DataW.trod enc P w 0 (fun _ => true) true fuel t [v] = some x) :
    ∃ (A : Option Addr) (cap : Nat) (ks : List Int), v = .slice A ks.length cap ∧ ks.length ≤ 9223372036854775807 ∧
      (ks = [] ∨ ∃ b off : Nat, A = some ⟨b, off, none⟩ ∧ b < w.heap.size ∧ ∀ i (h : i < ks.length), w.cell? ⟨b, off + i, none⟩ = some (.int .i64 ks[i])) := by
  rcases open_ints ht he hc h with ⟨hcs, _⟩ | ⟨a, len, cap, zs, hcs, _, hl, hm, hz, _, hcell, _⟩
  · exact ⟨none, 0, [], by simpa using hcs, by decide, Or.inl rfl⟩
  · simp only [List.cons.injEq, and_true] at hcs
    subst hcs
    simp only [if_true] at hz
    have hlen : (zs.take len).length = len := by rw [List.length_take]; omega
    refine ⟨some a, cap, zs.take len, by rw [hlen], by rw [hlen]; unfold maxLen at hm; omega, ?_⟩
    by_cases h0 : len = 0
    · subst h0; exact Or.inl (by simp)
    · have hb : a.block < w.heap.size := by
        have := World.block_lt_of_cell? w (a.add 0) (hcell 0 (by omega))
        rwa [block_add] at this
      obtain ⟨b, off, spot⟩ := a
      have hspot : spot = none := by simpa [Addr.add] using World.cell?_spot (hcell 0 (by omega))
      subst hspot
      refine Or.inr ⟨b, off, rfl, hb, fun i hi => ?_⟩
      rw [hlen] at hi
      have e := hcell i (by omega)
      rw [add_plain] at e
      rw [e]
      simp [List.getD, List.getElem?_eq_getElem (show i < zs.length by omega)]

/-- A text of a row that came in. -/
structure RowV where
  A : Option Addr
  cap : Nat
  t : List UInt8
instance : Inhabited RowV := ⟨⟨none, 0, []⟩⟩
def RowV.ok (w : World) (p : RowV) : Prop := p.t.length ≤ p.cap ∧ p.cap ≤ 9223372036854775807 ∧ (p.A = none → p.cap = 0) ∧ Lie8 w (fun _ => False) p.A p.t
/-- The texts' headers lie in memory. -/
def RowsAt (w : World) (A : Option Addr) (rs : List RowV) : Prop :=
  rs = [] ∨ ∃ b off : Nat, A = some ⟨b, off, none⟩ ∧ b < w.heap.size ∧ ∀ i (h : i < rs.length), w.cell? ⟨b, off + i, none⟩ = some (.slice rs[i].A rs[i].t.length rs[i].cap) ∧ rs[i].ok w
theorem RowV.ok.below {w w' : World} {p : RowV} (h : p.ok w) (hb : Below w.heap.size w w') : p.ok w' := ⟨h.1, h.2.1, h.2.2.1, h.2.2.2.below hb⟩
theorem RowsAt.below {w w' : World} {A : Option Addr} {rs : List RowV} (h : RowsAt w A rs) (hb : Below w.heap.size w w') : RowsAt w' A rs := by
  rcases h with h | ⟨b, off, hA, hlt, hc⟩
  · exact Or.inl h
  · exact Or.inr ⟨b, off, hA, Nat.lt_of_lt_of_le hlt hb.size, fun i hi => ⟨(hb.cell (p := ⟨b, off + i, none⟩) hlt).trans (hc i hi).1, (hc i hi).2.below hb⟩⟩

section
variable {H : Type} {enc : TypeId × Value → H} {P : Program} {w : World} {fuel : Nat} {x : DataW H × List MemPlace} {v : Value}
/-- A row of rows of bytes that came in. -/
theorem rows_view {t e t8 : TypeId} (ht : P.underlying t = some (.slice e)) (he : P.underlying e = some (.slice t8)) (h8 : P.underlying t8 = some (.int .u8)) (hC : P.cellsOf e = 1) (hc8 : P.cellsOf t8 = 1)
    (h : DataW.trod enc P w 0 (fun _ => true) true fuel t [v] = some x) :
    ∃ (A : Option Addr) (cap : Nat) (rs : List RowV), v = .slice A rs.length cap ∧ rs.length ≤ 9223372036854775807 ∧ RowsAt w A rs := by
  rcases open_slice1 ht hC h with ⟨hcs, _⟩ | ⟨a, len, cap, m, n, C, D, Pl, hcs, _, hl, hm, hmm, _, hi⟩
  · exact ⟨none, 0, [], by simpa using hcs, by decide, Or.inl rfl⟩
  · simp only [List.cons.injEq, and_true] at hcs
    subst hcs
    simp only [if_true] at hmm
    subst hmm
    have each : ∀ i, i < len → ∃ p : RowV, w.cell? (a.add i) = some (.slice p.A p.t.length p.cap) ∧ p.ok w := by
      intro i hil
      obtain ⟨hc, hst⟩ := hi i (by omega)
      obtain ⟨A2, cap2, l2, e2, k2, k3, k4, k5⟩ := bytes_view he h8 hc8 hst
      exact ⟨⟨A2, cap2, l2⟩, by rw [hc, e2], k2, k3, k4, k5⟩
    obtain ⟨V, hV⟩ := choose_lt (α := RowV) (n := len) (p := fun i p => w.cell? (a.add i) = some (.slice p.A p.t.length p.cap) ∧ p.ok w) each
    refine ⟨some a, m, (List.range len).map V, by simp, by simp only [List.length_map, List.length_range]; unfold maxLen at hm; omega, ?_⟩
    by_cases hz : len = 0
    · subst hz; exact Or.inl (by simp)
    · have hb : a.block < w.heap.size := by
        have := World.block_lt_of_cell? w _ (hV 0 (by omega)).1
        rwa [block_add] at this
      obtain ⟨b, off, spot⟩ := a
      have hspot : spot = none := by
        have := World.cell?_spot (hV 0 (by omega)).1
        simpa [Addr.add] using this
      subst hspot
      refine Or.inr ⟨b, off, rfl, hb, fun i hil => ?_⟩
      simp only [List.length_map, List.length_range] at hil
      have := hV i hil
      rw [add_plain] at this
      simpa using this
end

end Go.Proofs.Ytkbebllkjmccoaa
