/- Plain facts on heaps that lie in a row: what container/heap's up and down keep. Conditions: as each says. -/
import Derived.RowKit3
namespace Go.Proofs.Ytkbebllkjmccoaa

section
variable {α : Type} [Inhabited α]
/-- What stands at place k. -/
def atL (L : List α) (k : Nat) : α := L.getD k default
theorem atL_eq {L : List α} {k : Nat} (h : k < L.length) : atL L k = L[k] := by
  unfold atL
  rw [List.getD_eq_getElem?_getD, List.getElem?_eq_getElem h]
  rfl
theorem atL_mem {L : List α} {k : Nat} (h : k < L.length) : atL L k ∈ L := by
  rw [atL_eq h]; exact List.getElem_mem h
theorem atL_set {L : List α} {i : Nat} (k : Nat) (x : α) (h : i < L.length) : atL (L.set i x) k = if k = i then x else atL L k := by
  unfold atL
  rw [List.getD_eq_getElem?_getD, List.getD_eq_getElem?_getD]
  by_cases e : k = i
  · subst e; rw [if_pos rfl, List.getElem?_set_self h]; rfl
  · rw [if_neg e, List.getElem?_set_ne (fun h => e h.symm)]
/-- Two change their places. -/
def swapL (L : List α) (i j : Nat) : List α := (L.set i (atL L j)).set j (atL L i)
theorem swapL_length (L : List α) (i j : Nat) : (swapL L i j).length = L.length := by simp [swapL]
theorem swapL_at {L : List α} {i j : Nat} (hi : i < L.length) (hj : j < L.length) (k : Nat) : atL (swapL L i j) k = if k = j then atL L i else if k = i then atL L j else atL L k := by
  unfold swapL
  rw [atL_set _ _ (by rw [List.length_set]; exact hj), atL_set _ _ hi]
theorem swapL_perm {L : List α} {i j : Nat} (hi : i < L.length) (hj : j < L.length) : (swapL L i j).Perm L := by
  have h := Array.swap_perm (xs := L.toArray) (i := i) (j := j) (by simpa using hi) (by simpa using hj)
  have e : (L.toArray.swap i j (by simpa using hi) (by simpa using hj)).toList = swapL L i j := by
    unfold swapL
    rw [atL_eq hi, atL_eq hj, Array.swap_def]
    simp
  rw [← e]
  exact (Array.perm_iff_toList_perm.1 h).trans (by simp)
theorem swapL_self (L : List α) (i : Nat) (hi : i < L.length) : swapL L i i = L := by
  unfold swapL
  rw [List.set_set, atL_eq hi]
  simp

/-- An order. -/
structure IsOrd (lt : α → α → Bool) : Prop where
  asym : ∀ {a b}, lt a b = true → lt b a = false
  trans : ∀ {a b c}, lt b a = false → lt c b = false → lt c a = false
theorem IsOrd.refl {β : Type} {lt : β → β → Bool} (h : IsOrd lt) (a : β) : lt a a = false := by
  cases e : lt a a
  · rfl
  · have := h.asym e; rw [e] at this; cases this

/-- What stands at k is not ahead of what it hangs on. -/
def Edge (lt : α → α → Bool) (L : List α) (k : Nat) : Prop := lt (atL L k) (atL L ((k - 1) / 2)) = false
def HeapTo (lt : α → α → Bool) (L : List α) (n : Nat) : Prop := ∀ k, 0 < k → k < n → Edge lt L k
/-- A heap, but at j, upwards. -/
structure UpOk (lt : α → α → Bool) (L : List α) (n j : Nat) : Prop where
  e : ∀ k, 0 < k → k < n → k ≠ j → Edge lt L k
  g : ∀ k, 0 < k → k < n → (k - 1) / 2 = j → 0 < j → lt (atL L k) (atL L ((j - 1) / 2)) = false
/-- A heap, but at i, downwards, and at i0, as long as nothing was moved. -/
structure DownOk (lt : α → α → Bool) (L : List α) (n i0 i : Nat) : Prop where
  e : ∀ k, 0 < k → k < n → (k - 1) / 2 ≠ i → (k ≠ i0 ∨ i ≠ i0) → Edge lt L k
  g : ∀ k, 0 < k → k < n → (k - 1) / 2 = i → 0 < i → lt (atL L k) (atL L ((i - 1) / 2)) = false

section
variable {lt : α → α → Bool} {L : List α} {n : Nat}
theorem HeapTo.mono (h : HeapTo lt L n) {m : Nat} (hm : m ≤ n) : HeapTo lt L m := fun k h0 hk => h k h0 (by omega)
theorem HeapTo.up (h : HeapTo lt L n) (hlt : IsOrd lt) (j : Nat) : UpOk lt L n j :=
  ⟨fun k h0 hk _ => h k h0 hk, fun k h0 hk e hj => by
    by_cases hjn : j < n
    · have h1 := h k h0 hk
      have h2 := h j hj hjn
      unfold Edge at h1 h2
      rw [e] at h1
      exact hlt.trans h2 h1
    · exfalso; omega⟩
theorem UpOk.done {j : Nat} (h : UpOk lt L n j) (hd : j = 0 ∨ Edge lt L j) : HeapTo lt L n := fun k h0 hk => by
  by_cases e : k = j
  · subst e
    rcases hd with rfl | hd
    · omega
    · exact hd
  · exact h.e k h0 hk e
theorem UpOk.step {j : Nat} (h : UpOk lt L n j) (hlt : IsOrd lt) (hn : n ≤ L.length) (h0 : 0 < j) (hj : j < n) (hl : lt (atL L j) (atL L ((j - 1) / 2)) = true) :
    UpOk lt (swapL L ((j - 1) / 2) j) n ((j - 1) / 2) := by
  have hi : (j - 1) / 2 < j := by omega
  obtain ⟨i, ei⟩ : ∃ i, (j - 1) / 2 = i := ⟨_, rfl⟩
  rw [ei] at hl hi ⊢
  have hs := swapL_at (L := L) (i := i) (j := j) (by omega) (by omega)
  have hla := hlt.asym hl
  constructor
  · intro k k0 kn ki
    unfold Edge
    by_cases e1 : k = j
    · subst e1
      rw [ei, hs k, if_pos rfl, hs i, if_neg (by omega), if_pos rfl]
      exact hla
    · have he := h.e k k0 kn e1
      unfold Edge at he
      rw [hs k, if_neg e1, if_neg ki]
      obtain ⟨p, ep⟩ : ∃ p, (k - 1) / 2 = p := ⟨_, rfl⟩
      rw [ep] at he ⊢
      rw [hs p]
      by_cases e2 : p = j
      · rw [if_pos e2]
        have := h.g k k0 kn (by omega) h0
        rw [ei] at this
        exact this
      · rw [if_neg e2]
        by_cases e3 : p = i
        · rw [if_pos e3]
          rw [e3] at he
          exact hlt.trans hla he
        · rw [if_neg e3]
          exact he
  · intro k k0 kn kp i0
    obtain ⟨q, eq⟩ : ∃ q, (i - 1) / 2 = q := ⟨_, rfl⟩
    rw [eq, hs q, if_neg (by omega), if_neg (by omega)]
    have hei := h.e i i0 (by omega) (by omega)
    unfold Edge at hei
    rw [eq] at hei
    rw [hs k]
    by_cases e1 : k = j
    · rw [if_pos e1]; exact hei
    · rw [if_neg e1, if_neg (by omega)]
      have he := h.e k k0 kn e1
      unfold Edge at he
      rw [kp] at he
      exact hlt.trans hei he
theorem DownOk.step {i0 i j : Nat} (h : DownOk lt L n i0 i) (hlt : IsOrd lt) (hn : n ≤ L.length) (hi0 : i0 ≤ i) (hp : (j - 1) / 2 = i) (h0 : 0 < j) (hj : j < n)
    (hleast : ∀ k, 0 < k → k < n → (k - 1) / 2 = i → lt (atL L k) (atL L j) = false) (hl : lt (atL L j) (atL L i) = true) : DownOk lt (swapL L i j) n i0 j := by
  have hij : i < j := by omega
  have hs := swapL_at (L := L) (i := i) (j := j) (by omega) (by omega)
  have hla := hlt.asym hl
  constructor
  · intro k k0 kn kp _
    unfold Edge
    by_cases e1 : k = j
    · subst e1
      rw [hp, hs k, if_pos rfl, hs i, if_neg (by omega), if_pos rfl]
      exact hla
    · rw [hs k, if_neg e1]
      by_cases e2 : (k - 1) / 2 = i
      · rw [e2, hs i, if_neg (by omega), if_pos rfl, if_neg (by omega)]
        exact hleast k k0 kn e2
      · by_cases e3 : k = i
        · subst e3
          rw [if_pos rfl]
          obtain ⟨q, eq⟩ : ∃ q, (k - 1) / 2 = q := ⟨_, rfl⟩
          have hg := h.g j h0 hj hp k0
          rw [eq] at hg ⊢
          rw [hs q, if_neg (by omega), if_neg (by omega)]
          exact hg
        · rw [if_neg e3]
          obtain ⟨q, eq⟩ : ∃ q, (k - 1) / 2 = q := ⟨_, rfl⟩
          have he := h.e k k0 kn e2 (by omega)
          unfold Edge at he
          rw [eq] at he e2 kp ⊢
          rw [hs q, if_neg kp, if_neg e2]
          exact he
  · intro k k0 kn kp _
    have he := h.e k k0 kn (by omega) (by omega)
    unfold Edge at he
    rw [kp] at he
    rw [hp, hs k, if_neg (by omega), if_neg (by omega), hs i, if_neg (by omega), if_pos rfl]
    exact he
theorem DownOk.heap {i0 i : Nat} (h : DownOk lt L n i0 i) (hd : ∀ k, 0 < k → k < n → (k - 1) / 2 = i → Edge lt L k) (hne : i ≠ i0 ∨ i0 = 0) : HeapTo lt L n := fun k k0 kn => by
  by_cases e : (k - 1) / 2 = i
  · exact hd k k0 kn e
  · exact h.e k k0 kn e (by omega)
theorem DownOk.still {i0 : Nat} (h : DownOk lt L n i0 i0) (hd : ∀ k, 0 < k → k < n → (k - 1) / 2 = i0 → Edge lt L k) : UpOk lt L n i0 :=
  ⟨fun k k0 kn ki => by
    by_cases e : (k - 1) / 2 = i0
    · exact hd k k0 kn e
    · exact h.e k k0 kn e (Or.inl ki), h.g⟩
theorem HeapTo.least (h : HeapTo lt L n) (hlt : IsOrd lt) : ∀ k, k < n → lt (atL L k) (atL L 0) = false := by
  intro k
  induction k using Nat.strongRecOn with
  | ind k ih =>
    intro hk
    by_cases h0 : k = 0
    · subst h0; exact hlt.refl _
    · exact hlt.trans (ih ((k - 1) / 2) (by omega) (by omega)) (h k (by omega) hk)
/-- One is taken away, or another one laid in its place, at i: what may be out of order then. -/
theorem HeapTo.swapped (h : HeapTo lt L n) (hlt : IsOrd lt) {m i : Nat} (hn : n ≤ L.length) (hm : m + 1 = n) (hi : i < m) : DownOk lt (swapL L i m) m i i := by
  have hs := swapL_at (L := L) (i := i) (j := m) (by omega) (by omega)
  constructor
  · intro k k0 kn kp kq
    have ki : k ≠ i := by omega
    have he := h k k0 (by omega)
    unfold Edge at he ⊢
    obtain ⟨q, eq⟩ : ∃ q, (k - 1) / 2 = q := ⟨_, rfl⟩
    rw [eq] at he kp ⊢
    rw [hs k, if_neg (by omega), if_neg ki, hs q, if_neg (by omega), if_neg kp]
    exact he
  · intro k k0 kn kp i0
    obtain ⟨q, eq⟩ : ∃ q, (i - 1) / 2 = q := ⟨_, rfl⟩
    have h1 := h k k0 (by omega)
    have h2 := h i i0 (by omega)
    unfold Edge at h1 h2
    rw [kp] at h1
    rw [eq] at h2 ⊢
    rw [hs k, if_neg (by omega), if_neg (by omega), hs q, if_neg (by omega), if_neg (by omega)]
    exact hlt.trans h2 h1
end
/-- One more behind all: what may be out of order then. -/
theorem HeapTo.push {lt : α → α → Bool} {L : List α} (h : HeapTo lt L L.length) (o : α) : UpOk lt (L ++ [o]) (L.length + 1) L.length := by
  have ha : ∀ k, k < L.length → atL (L ++ [o]) k = atL L k := fun k hk => by
    rw [atL_eq (by rw [List.length_append]; omega), atL_eq hk, List.getElem_append_left hk]
  constructor
  · intro k k0 kn kj
    have := h k k0 (by omega)
    unfold Edge at this ⊢
    rw [ha k (by omega), ha _ (by omega)]
    exact this
  · intro k k0 kn kp _
    omega
theorem take_atL {L : List α} {n k : Nat} (h : k < n) : atL (L.take n) k = atL L k := by
  unfold atL
  rw [List.getD_eq_getElem?_getD, List.getD_eq_getElem?_getD, List.getElem?_take, if_pos h]
theorem HeapTo.take {lt : α → α → Bool} {L : List α} {n : Nat} (h : HeapTo lt L n) : HeapTo lt (L.take n) (L.take n).length := fun k k0 kn => by
  rw [List.length_take] at kn
  have := h k k0 (by omega)
  unfold Edge at this ⊢
  rw [take_atL (by omega), take_atL (by omega)]
  exact this
end
end Go.Proofs.Ytkbebllkjmccoaa
