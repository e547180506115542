/- Rows of rows of bytes: how they lie when they come in, and what a writer makes of them: two rows have the same bytes just if they are the same. Conditions: as each says. -/
import Derived.Test.YtcnnfmooigfeiaaWireView
import Derived.Test.YtcnnfmooigfeiaaWireEnc
namespace Go.Proofs.Ytcnnfmooigfeiaa
open Go.ChangeShapes Go.WideShapes Go.ChangeAt Go.RowKit Go.Deep

/-- A text of a row that came in. -/
structure RowV where
  A : Option Addr
  cap : Nat
  t : List UInt8
instance : Inhabited RowV := ⟨⟨none, 0, []⟩⟩
def RowV.ok (w : World) (p : RowV) : Prop := p.t.length ≤ p.cap ∧ p.cap ≤ 9223372036854775807 ∧ (p.A = none → p.cap = 0) ∧ Lie8 w (fun _ => False) p.A p.t
/-- The texts' headers lie in memory. -/
def RowsAt (w : World) (A : Option Addr) (rs : List RowV) : Prop :=
  rs = [] ∨ ∃ b off : Nat, A = some ⟨b, off, none⟩ ∧ b < w.heap.size ∧ ∀ i (h : i < rs.length), w.cell? ⟨b, off + i, none⟩ = some (.slice rs[i].A rs[i].t.length rs[i].cap) ∧ rs[i].ok w
theorem RowV.ok.below {w w' : World} {p : RowV} (h : p.ok w) (hb : Below w.heap.size w w') : p.ok w' := ⟨h.1, h.2.1, h.2.2.1, h.2.2.2.below hb⟩
theorem RowsAt.below {w w' : World} {A : Option Addr} {rs : List RowV} (h : RowsAt w A rs) (hb : Below w.heap.size w w') : RowsAt w' A rs := by
  rcases h with h | ⟨b, off, hA, hlt, hc⟩
  · exact Or.inl h
  · exact Or.inr ⟨b, off, hA, Nat.lt_of_lt_of_le hlt hb.size, fun i hi => ⟨(hb.cell (p := ⟨b, off + i, none⟩) hlt).trans (hc i hi).1, (hc i hi).2.below hb⟩⟩

section
variable {H : Type} {enc : TypeId × Value → H} {P : Program} {w : World} {fuel : Nat} {x : DataW H × List MemPlace} {v : Value}
/-- A row of rows of bytes that came in. -/
theorem rows_view {t e t8 : TypeId} (ht : P.underlying t = some (.slice e)) (he : P.underlying e = some (.slice t8)) (h8 : P.underlying t8 = some (.int .u8)) (hC : P.cellsOf e = 1) (hc8 : P.cellsOf t8 = 1)
    (h : DataW.trod enc P w 0 (fun _ => true) true fuel t [v] = some x) :
    ∃ (A : Option Addr) (cap : Nat) (rs : List RowV), v = .slice A rs.length cap ∧ rs.length ≤ 9223372036854775807 ∧ RowsAt w A rs := by
  rcases open_slice1 ht hC h with ⟨hcs, _⟩ | ⟨a, len, cap, m, n, C, D, Pl, hcs, _, hl, hm, hmm, _, hi⟩
  · exact ⟨none, 0, [], by simpa using hcs, by decide, Or.inl rfl⟩
  · simp only [List.cons.injEq, and_true] at hcs
    subst hcs
    simp only [if_true] at hmm
    subst hmm
    have each : ∀ i, i < len → ∃ p : RowV, w.cell? (a.add i) = some (.slice p.A p.t.length p.cap) ∧ p.ok w := by
      intro i hil
      obtain ⟨hc, hst⟩ := hi i (by omega)
      obtain ⟨A2, cap2, l2, e2, k2, k3, k4, k5⟩ := bytes_view he h8 hc8 hst
      exact ⟨⟨A2, cap2, l2⟩, by rw [hc, e2], k2, k3, k4, k5⟩
    obtain ⟨V, hV⟩ := choose_lt (α := RowV) (n := len) (p := fun i p => w.cell? (a.add i) = some (.slice p.A p.t.length p.cap) ∧ p.ok w) each
    refine ⟨some a, m, (List.range len).map V, by simp, by simp only [List.length_map, List.length_range]; unfold maxLen at hm; omega, ?_⟩
    by_cases hz : len = 0
    · subst hz; exact Or.inl (by simp)
    · have hb : a.block < w.heap.size := by
        have := World.block_lt_of_cell? w _ (hV 0 (by omega)).1
        rwa [block_add] at this
      obtain ⟨b, off, spot⟩ := a
      have hspot : spot = none := by
        have := World.cell?_spot (hV 0 (by omega)).1
        simpa [Addr.add] using this
      subst hspot
      refine Or.inr ⟨b, off, rfl, hb, fun i hil => ?_⟩
      simp only [List.length_map, List.length_range] at hil
      have := hV i hil
      rw [add_plain] at this
      simpa using this
end

/-- The bytes of texts, a number behind each. -/
def rowEnc (x : Int) : List (List UInt8) → List UInt8
  | [] => []
  | t :: r => (text8 t ++ num8 x) ++ rowEnc x r
/-- .. and how many there are ahead of them. -/
def allEnc (x : Int) (l : List (List UInt8)) : List UInt8 := num8 (asU l.length) ++ rowEnc x l
theorem rowEnc_snoc (x : Int) (l : List (List UInt8)) (t : List UInt8) : rowEnc x (l ++ [t]) = rowEnc x l ++ (text8 t ++ num8 x) := by
  induction l with
  | nil => simp [rowEnc]
  | cons a r ih => simp only [List.cons_append, rowEnc, ih, List.append_assoc]
theorem rowEnc_length (x : Int) (l : List (List UInt8)) (h : ∀ t ∈ l, t.length ≤ 100) : (rowEnc x l).length ≤ l.length * 116 := by
  induction l with
  | nil => simp [rowEnc]
  | cons a r ih =>
    have h1 := h a (by simp)
    have h2 := ih (fun t ht => h t (by simp [ht]))
    simp only [rowEnc, List.length_append, text8_length, num8_length, List.length_cons]
    omega
theorem num8_split {n m : Int} {r s : List UInt8} (hn : Word n) (hm : Word m) (h : num8 n ++ r = num8 m ++ s) : n = m ∧ r = s := by
  obtain ⟨h1, h2⟩ := List.append_inj h (by rw [num8_length, num8_length])
  exact ⟨num8_inj hn hm h1, h2⟩
theorem text8_split {t u r s : List UInt8} (ht : t.length < 18446744073709551616) (hu : u.length < 18446744073709551616) (h : text8 t ++ r = text8 u ++ s) : t = u ∧ r = s := by
  unfold text8 at h
  rw [List.append_assoc, List.append_assoc] at h
  obtain ⟨h1, h2⟩ := num8_split ⟨by omega, by omega⟩ ⟨by omega, by omega⟩ h
  exact List.append_inj h2 (by omega)
theorem rowEnc_inj {n m : Int} (hn : Word n) (hm : Word m) : ∀ (a b : List (List UInt8)), (∀ t ∈ a, t.length ≤ 100) → (∀ t ∈ b, t.length ≤ 100) → a.length = b.length → rowEnc n a = rowEnc m b → a = b ∧ (n = m ∨ a = [])
  | [], [], _, _, _, _ => ⟨rfl, Or.inr rfl⟩
  | [], _ :: _, _, _, h, _ => by simp at h
  | _ :: _, [], _, _, h, _ => by simp at h
  | t :: a, u :: b, ha, hb, hl, h => by
    simp only [rowEnc, List.append_assoc] at h
    have h1 := ha t (by simp)
    have h2 := hb u (by simp)
    obtain ⟨e1, h3⟩ := text8_split (by omega) (by omega) h
    obtain ⟨e2, h4⟩ := num8_split hn hm h3
    obtain ⟨e3, _⟩ := rowEnc_inj hn hm a b (fun t ht => ha t (by simp [ht])) (fun t ht => hb t (by simp [ht])) (by simpa using hl) h4
    exact ⟨by rw [e1, e3], Or.inl e2⟩
theorem allEnc_inj {n m : Int} (hn : Word n) (hm : Word m) {a b : List (List UInt8)} (ha : ∀ t ∈ a, t.length ≤ 100) (hb : ∀ t ∈ b, t.length ≤ 100) (la : a.length ≤ 12) (lb : b.length ≤ 12) :
    allEnc n a = allEnc m b ↔ a = b ∧ (n = m ∨ a = []) := by
  constructor
  · intro h
    obtain ⟨h1, h2⟩ := num8_split (asU_word _) (asU_word _) h
    have hl : a.length = b.length := by
      unfold asU at h1; omega
    exact rowEnc_inj hn hm a b ha hb hl h2
  · rintro ⟨rfl, rfl | rfl⟩ <;> rfl
end Go.Proofs.Ytcnnfmooigfeiaa
