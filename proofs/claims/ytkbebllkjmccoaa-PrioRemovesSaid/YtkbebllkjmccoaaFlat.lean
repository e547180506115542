/- A row of structs of plain fields (bools, ints, numbers of 64 bits) that came in: how it lies in memory. Conditions: it was read as data. -/
import Derived.Test.YtkbebllkjmccoaaView
import Derived.Test.YtkbebllkjmccoaaRising
namespace Go.Proofs.Ytkbebllkjmccoaa
open Go.ChangeShapes Go.WideShapes Go.ChangeAt Go.RowKit Go.Deep

/-- Two lists go with each other, one by one. -/
def All2 {α β : Type} (R : α → β → Prop) : List α → List β → Prop
  | [], [] => True
  | a :: l, b :: m => R a b ∧ All2 R l m
  | [], _ :: _ => False
  | _ :: _, [] => False
/-- The kind of a plain field. -/
inductive CK where
  | b
  | i
  | u
def CK.desc : CK → TypeDesc
  | .b => .bool
  | .i => .int .i64
  | .u => .int .u64
/-- A value of a kind. -/
def CK.fits : CK → Value → Prop
  | .b, v => ∃ x, v = .bool x
  | .i, v => ∃ n, v = .int .i64 n ∧ I64 n
  | .u, v => ∃ n, v = .int .u64 n ∧ U64 n
/-- A row of rows of values lies in memory, one behind the other. -/
def FlatAt (w : World) (A : Option Addr) (ks : List CK) (rows : List (List Value)) : Prop :=
  (∀ r ∈ rows, All2 CK.fits ks r) ∧ (rows = [] ∨ ∃ b off : Nat, A = some ⟨b, off, none⟩ ∧ b < w.heap.size ∧ ∀ i (h : i < rows.length) (j : Nat), j < ks.length → w.cell? ⟨b, off + i * ks.length + j, none⟩ = rows[i][j]?)
theorem FlatAt.at {w : World} {A : Option Addr} {ks : List CK} {rows : List (List Value)} (h : FlatAt w A ks rows) {i : Nat} (hi : i < rows.length) :
    ∃ b off : Nat, A = some ⟨b, off, none⟩ ∧ b < w.heap.size ∧ All2 CK.fits ks rows[i] ∧ ∀ j : Nat, j < ks.length → w.cell? ⟨b, off + i * ks.length + j, none⟩ = rows[i][j]? := by
  rcases h.2 with rfl | ⟨b, off, hA, hlt, hc⟩
  · cases hi
  · exact ⟨b, off, hA, hlt, h.1 _ (List.getElem_mem hi), fun j hj => hc i hi j hj⟩
theorem FlatAt.below {w w' : World} {A : Option Addr} {ks : List CK} {rows : List (List Value)} (h : FlatAt w A ks rows) (hb : Below w.heap.size w w') : FlatAt w' A ks rows := by
  refine ⟨h.1, ?_⟩
  rcases h.2 with h | ⟨b, off, hA, hlt, hc⟩
  · exact Or.inl h
  · exact Or.inr ⟨b, off, hA, Nat.lt_of_lt_of_le hlt hb.size, fun i hi j hj => (hb.cell (p := ⟨b, off + i * ks.length + j, none⟩) hlt).trans (hc i hi j hj)⟩

theorem forall2_get {α β : Type} {R : α → β → Prop} : ∀ {l : List α} {m : List β}, All2 R l m → l.length = m.length ∧ ∀ j (h1 : j < l.length) (h2 : j < m.length), R l[j] m[j]
  | [], [], _ => ⟨rfl, fun j h1 => by cases h1⟩
  | [], _ :: _, h => h.elim
  | _ :: _, [], h => h.elim
  | a :: l, b :: m, h => by
    have ih := forall2_get h.2
    refine ⟨by simp [ih.1], fun j h1 h2 => ?_⟩
    rcases j with _ | j
    · exact h.1
    · exact ih.2 j (by simpa using h1) (by simpa using h2)
theorem forall2_of {α β : Type} {R : α → β → Prop} : ∀ {l : List α} {m : List β}, l.length = m.length → (∀ j (h1 : j < l.length) (h2 : j < m.length), R l[j] m[j]) → All2 R l m
  | [], [], _, _ => trivial
  | [], _ :: _, h, _ => by cases h
  | _ :: _, [], h, _ => by cases h
  | a :: l, b :: m, h, hR => ⟨hR 0 (by simp) (by simp), forall2_of (by simpa using h) fun j h1 h2 => hR (j + 1) (by simpa using h1) (by simpa using h2)⟩

section
variable {H : Type} {enc : TypeId × Value → H} {P : Program} {w : World} {fuel : Nat} {x : DataW H × List MemPlace} {v : Value}
theorem plain_fits {k : CK} {t : TypeId} {u : Value} {n : Nat} {y : DataW H × List MemPlace} (ht : P.underlying t = some k.desc) (h : DataW.trod enc P w 0 (fun _ => true) true n t [u] = some y) : k.fits u := by
  cases k
  · obtain ⟨z, e, _⟩ := DataW.trod_bool ht h
    simp only [List.cons.injEq, and_true] at e
    exact ⟨z, e⟩
  · obtain ⟨z, e, _, hw⟩ := DataW.trod_int ht h
    simp only [List.cons.injEq, and_true] at e
    simp [Lit.wf, IntKind.min, IntKind.max, IntKind.signed, IntKind.bits] at hw
    exact ⟨z, e, by omega, by omega⟩
  · obtain ⟨z, e, _, hw⟩ := DataW.trod_int ht h
    simp only [List.cons.injEq, and_true] at e
    simp [Lit.wf, IntKind.min, IntKind.max, IntKind.signed, IntKind.bits] at hw
    exact ⟨z, e, by omega, by omega⟩
theorem flat_view {t e : TypeId} {fs : Array Field} {ks : List CK} (ht : P.underlying t = some (.slice e)) (he : P.underlying e = some (.struct fs)) (hone : oneCellFields P fs = true) (hC : P.cellsOf e = ks.length) (hpos : 0 < ks.length)
    (hk : All2 (fun (f : Field) (k : CK) => P.underlying f.type = some k.desc) fs.toList ks) (h : DataW.trod enc P w 0 (fun _ => true) true fuel t [v] = some x) :
    ∃ (A : Option Addr) (cap : Nat) (rows : List (List Value)), v = .slice A rows.length cap ∧ rows.length ≤ 9223372036854775807 ∧ FlatAt w A ks rows := by
  obtain ⟨hsz, hat0⟩ := forall2_get hk
  rcases open_slice ht h with ⟨hcs, _⟩ | ⟨a, len, cap, m, n, D, Pl, hcs, _, hl, hm, hmm, _, hi⟩
  · exact ⟨none, 0, [], by simpa using hcs, by decide, fun r hr => (by cases hr), Or.inl rfl⟩
  · simp only [List.cons.injEq, and_true] at hcs
    subst hcs
    simp only [if_true] at hmm
    subst hmm
    have each : ∀ i, i < len → ∃ r : List Value, All2 CK.fits ks r ∧ ∀ j, j < ks.length → w.cell? (a.add (i * ks.length + j)) = r[j]? := by
      intro i hil
      obtain ⟨cs', hc, hst⟩ := hi i (by omega)
      obtain ⟨ys, n', _, _, hlen, _, hfld⟩ := DataW.trod_struct he hst
      obtain ⟨_, _, hat⟩ := World.cells?_some hc
      rw [hC] at hlen hat
      have hkl : ks.length = cs'.length := by first | exact hlen | exact hlen.symm | omega
      refine ⟨cs', forall2_of hkl fun j h1 h2 => ?_, fun j hj => ?_⟩
      · have hjf : j < fs.size := by rw [← Array.length_toList]; omega
        have hjs : fs[j]? = some (fs[j]'hjf) := Array.getElem?_eq_getElem hjf
        obtain ⟨ho, hk1⟩ := hone_of hone j _ hjs
        have e := hfld j _ hjs
        rw [ho, hk1] at e
        have hty := hat0 j (by rw [Array.length_toList]; exact hjf) h1
        rw [Array.getElem_toList] at hty
        have hd : (cs'.drop j).take 1 = [cs'[j]] := by
          rw [List.drop_eq_getElem_cons h2]
          rfl
        rw [hd] at e
        have hys : ∃ y, ys[j]? = some y := ⟨ys[j]'(by omega), List.getElem?_eq_getElem (by omega)⟩
        obtain ⟨y, hy⟩ := hys
        rw [hy] at e
        exact plain_fits hty e
      · have := hat j (by omega)
        rw [Deep.add_add] at this
        rw [this]
    obtain ⟨V, hV⟩ := choose_lt (α := List Value) (n := len) (p := fun i r => All2 CK.fits ks r ∧ ∀ j, j < ks.length → w.cell? (a.add (i * ks.length + j)) = r[j]?) each
    refine ⟨some a, m, (List.range len).map V, by simp, by simp only [List.length_map, List.length_range]; unfold maxLen at hm; omega, fun r hr => ?_, ?_⟩
    · obtain ⟨i, hi2, rfl⟩ := List.mem_map.1 hr
      exact (hV i (List.mem_range.1 hi2)).1
    · by_cases hz : len = 0
      · subst hz; exact Or.inl (by simp)
      · have h00 := (hV 0 (by omega)).2 0 hpos
        have hr0 : ∃ u, (V 0)[0]? = some u := by
          have := (forall2_get (hV 0 (by omega)).1).1
          exact ⟨(V 0)[0]'(by omega), List.getElem?_eq_getElem (by omega)⟩
        obtain ⟨u, hu⟩ := hr0
        rw [hu] at h00
        have hb : a.block < w.heap.size := by
          have := World.block_lt_of_cell? w _ h00
          rwa [block_add] at this
        obtain ⟨b, off, spot⟩ := a
        have hspot : spot = none := by
          have := World.cell?_spot h00
          simpa [Addr.add] using this
        subst hspot
        refine Or.inr ⟨b, off, rfl, hb, fun i hil j hj => ?_⟩
        simp only [List.length_map, List.length_range] at hil
        have := (hV i hil).2 j hj
        rw [add_plain, ← Nat.add_assoc] at this
        simpa using this
end
theorem fits_u {v : Value} (h : CK.fits .u v) : ∃ n, v = .int .u64 n ∧ U64 n := h
theorem all2_cons {α β : Type} {R : α → β → Prop} {a : α} {l : List α} {m : List β} (h : All2 R (a :: l) m) : ∃ b m', m = b :: m' ∧ R a b ∧ All2 R l m' := by
  rcases m with _ | ⟨b, m'⟩
  · exact h.elim
  · exact ⟨b, m', rfl, h.1, h.2⟩
theorem all2_nil {α β : Type} {R : α → β → Prop} {m : List β} (h : All2 R ([] : List α) m) : m = [] := by
  rcases m with _ | ⟨b, m'⟩
  · rfl
  · exact h.elim
theorem all2_mk {α β : Type} {R : α → β → Prop} {a : α} {b : β} {l : List α} {m : List β} (h : R a b) (t : All2 R l m) : All2 R (a :: l) (b :: m) := ⟨h, t⟩
theorem u64_wf {n : Int} (h : (Lit.int .u64 n).wf = true) : U64 n := by
  simp [Lit.wf, IntKind.min, IntKind.max, IntKind.signed, IntKind.bits] at h
  constructor <;> omega
theorem flat_iiu {r : List Value} (h : All2 CK.fits [.i, .i, .u] r) : ∃ a b n, r = [.int .i64 a, .int .i64 b, .int .u64 n] ∧ I64 a ∧ I64 b ∧ U64 n := by
  obtain ⟨_, r1, rfl, ⟨a, rfl, ha⟩, h1⟩ := all2_cons h
  obtain ⟨_, r2, rfl, ⟨b, rfl, hb⟩, h2⟩ := all2_cons h1
  obtain ⟨_, r3, rfl, ⟨n, rfl, hn⟩, h3⟩ := all2_cons h2
  obtain rfl := all2_nil h3
  exact ⟨a, b, n, rfl, ha, hb, hn⟩
end Go.Proofs.Ytkbebllkjmccoaa
