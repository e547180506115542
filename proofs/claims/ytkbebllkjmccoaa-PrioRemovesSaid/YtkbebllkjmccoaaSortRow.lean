/- Plain facts on sorting a row in place: insertion, merging by rotation, blocks. Conditions: as each says. -/
import Derived.Test.YtkbebllkjmccoaaHeap
namespace Go.Proofs.Ytkbebllkjmccoaa

section
variable {α : Type} [Inhabited α]

/-- E has the things of D, and is as D is outside of [a, b). -/
structure SubR (D E : List α) (a b : Nat) : Prop where
  perm : E.Perm D
  out : ∀ k, k < a ∨ b ≤ k → atL E k = atL D k
  come : ∀ k, a ≤ k → k < b → ∃ j, a ≤ j ∧ j < b ∧ atL E k = atL D j
theorem SubR.refl (D : List α) (a b : Nat) : SubR D D a b := ⟨.refl _, fun _ _ => rfl, fun k h1 h2 => ⟨k, h1, h2, rfl⟩⟩
theorem SubR.trans {D E G : List α} {a b : Nat} (h1 : SubR D E a b) (h2 : SubR E G a b) : SubR D G a b :=
  ⟨h2.perm.trans h1.perm, fun k hk => (h2.out k hk).trans (h1.out k hk), fun k ha hb => by
    obtain ⟨j, ja, jb, e⟩ := h2.come k ha hb
    obtain ⟨i, ia, ib, e'⟩ := h1.come j ja jb
    exact ⟨i, ia, ib, e.trans e'⟩⟩
theorem SubR.mono {D E : List α} {a b a' b' : Nat} (h : SubR D E a b) (ha : a' ≤ a) (hb : b ≤ b') : SubR D E a' b' :=
  ⟨h.perm, fun k hk => h.out k (by omega), fun k h1 h2 => by
    by_cases e : a ≤ k ∧ k < b
    · obtain ⟨j, ja, jb, e⟩ := h.come k e.1 e.2
      exact ⟨j, by omega, by omega, e⟩
    · exact ⟨k, h1, h2, h.out k (by omega)⟩⟩
theorem SubR.length {D E : List α} {a b : Nat} (h : SubR D E a b) : E.length = D.length := h.perm.length_eq
theorem SubR.swap (D : List α) {a b i j : Nat} (hi : a ≤ i) (hib : i < b) (hj : a ≤ j) (hjb : j < b) (hb : b ≤ D.length) : SubR D (swapL D i j) a b := by
  have hs := swapL_at (L := D) (i := i) (j := j) (by omega) (by omega)
  refine ⟨swapL_perm (by omega) (by omega), fun k hk => ?_, fun k h1 h2 => ?_⟩
  · rw [hs, if_neg (by omega), if_neg (by omega)]
  · rw [hs]
    split
    · exact ⟨i, hi, hib, rfl⟩
    · split
      · exact ⟨j, hj, hjb, rfl⟩
      · exact ⟨k, h1, h2, rfl⟩

/-- The part [a, b) stands in order. -/
def SegS (lt : α → α → Bool) (D : List α) (a b : Nat) : Prop := ∀ i j, a ≤ i → i < j → j < b → lt (atL D j) (atL D i) = false
section
variable {lt : α → α → Bool} {D E : List α} {a b m i j k s e : Nat}
theorem SegS.sub (h : SegS lt D a b) {a' b' : Nat} (ha : a ≤ a') (hb : b' ≤ b) : SegS lt D a' b' := fun i j h1 h2 h3 => h i j (by omega) h2 (by omega)
theorem SegS.same (h : SegS lt D a b) (he : ∀ k, a ≤ k → k < b → atL E k = atL D k) : SegS lt E a b := fun i j h1 h2 h3 => by
  rw [he i h1 (by omega), he j (by omega) h3]; exact h i j h1 h2 h3
theorem SegS.one (h : b ≤ a + 1) : SegS lt D a b := fun i j h1 h2 h3 => by omega
/-- What stands at s + i came from s + d + i. -/
theorem SegS.moved (h : SegS lt D a b) {a' b' : Nat} (f : Nat → Nat) (hf : ∀ k, a' ≤ k → k < b' → a ≤ f k ∧ f k < b ∧ atL E k = atL D (f k)) (hm : ∀ i j, a' ≤ i → i < j → j < b' → f i < f j) : SegS lt E a' b' := fun i j h1 h2 h3 => by
  obtain ⟨i1, i2, i3⟩ := hf i h1 (by omega)
  obtain ⟨j1, j2, j3⟩ := hf j (by omega) h3
  rw [i3, j3]
  exact h _ _ i1 (hm i j h1 h2 h3) j2
theorem SegS.le (h : SegS lt D a b) (hlt : IsOrd lt) (h1 : a ≤ i) (h2 : i ≤ j) (h3 : j < b) : lt (atL D j) (atL D i) = false := by
  rcases Nat.lt_or_ge i j with h' | h'
  · exact h i j h1 h' h3
  · obtain rfl : i = j := by omega
    exact hlt.refl _

/-- In order up to i, but for what stands at j, which is ahead of all behind it. -/
def InsAt (lt : α → α → Bool) (D : List α) (a i j : Nat) : Prop := ∀ p q, a ≤ p → p < q → q ≤ i → q ≠ j → lt (atL D q) (atL D p) = false
theorem InsAt.start (h : SegS lt D a i) : InsAt lt D a i i := fun p q h1 h2 h3 h4 => h p q h1 h2 (by omega)
theorem InsAt.step (h : InsAt lt D a i j) (hlt : IsOrd lt) (hj : a < j) (hji : j ≤ i) (hi : i < D.length) (hl : lt (atL D j) (atL D (j - 1)) = true) : InsAt lt (swapL D j (j - 1)) a i (j - 1) := fun p q h1 h2 h3 h4 => by
  have hs := swapL_at (L := D) (i := j) (j := j - 1) (by omega) (by omega)
  rw [hs q, hs p, if_neg h4]
  by_cases e1 : q = j
  · rw [if_pos e1]
    by_cases e2 : p = j - 1
    · rw [if_pos e2]; exact hlt.asym hl
    · rw [if_neg e2, if_neg (by omega)]; exact h p (j - 1) h1 (by omega) (by omega) (by omega)
  · rw [if_neg e1]
    by_cases e2 : p = j - 1
    · rw [if_pos e2]; exact h j q (by omega) (by omega) h3 e1
    · rw [if_neg e2]
      by_cases e3 : p = j
      · rw [if_pos e3]; exact h (j - 1) q (by omega) (by omega) h3 e1
      · rw [if_neg e3]; exact h p q h1 h2 h3 e1
theorem InsAt.done (h : InsAt lt D a i j) (hlt : IsOrd lt) (haj : a ≤ j) (hji : j ≤ i) (hd : j = a ∨ lt (atL D j) (atL D (j - 1)) = false) : SegS lt D a (i + 1) := fun p q h1 h2 h3 => by
  by_cases e : q = j
  · subst e
    rcases hd with rfl | hd
    · omega
    · by_cases e2 : p = q - 1
      · rw [e2]; exact hd
      · exact hlt.trans (h p (q - 1) h1 (by omega) (by omega) (by omega)) hd
  · exact h p q h1 h2 (by omega) e

/-- The first one goes up to k. -/
structure ShL (D E : List α) (a k : Nat) : Prop where
  mid : ∀ t, a ≤ t → t < k → atL E t = atL D (t + 1)
  at' : atL E k = atL D a
  out : ∀ t, t < a ∨ k < t → atL E t = atL D t
theorem ShL.start (D : List α) (a : Nat) : ShL D D a a := ⟨fun t h1 h2 => by omega, rfl, fun _ _ => rfl⟩
theorem ShL.step (h : ShL D E a k) (hak : a ≤ k) (hk : k + 1 < E.length) : ShL D (swapL E k (k + 1)) a (k + 1) := by
  have hs := swapL_at (L := E) (i := k) (j := k + 1) (by omega) (by omega)
  refine ⟨fun t h1 h2 => ?_, ?_, fun t ht => ?_⟩
  · rw [hs, if_neg (by omega)]
    by_cases e : t = k
    · rw [if_pos e, e]; exact h.out _ (by omega)
    · rw [if_neg e]; exact h.mid t h1 (by omega)
  · rw [hs, if_pos rfl]; exact h.at'
  · rw [hs, if_neg (by omega), if_neg (by omega)]; exact h.out t (by omega)
theorem ShL.done (h : ShL D E a k) (hlt : IsOrd lt) (hs : SegS lt D (a + 1) b) (hak : a ≤ k) (hkb : k < b) (h1 : k = a ∨ lt (atL D k) (atL D a) = true) (h2 : k + 1 = b ∨ lt (atL D (k + 1)) (atL D a) = false) : SegS lt E a b := fun p q hp hpq hq => by
  by_cases e1 : q < k
  · rw [h.mid q (by omega) e1, h.mid p hp (by omega)]
    exact hs _ _ (by omega) (by omega) (by omega)
  · by_cases e2 : q = k
    · rw [e2, h.at', h.mid p hp (by omega)]
      rcases h1 with rfl | h1
      · omega
      · exact hlt.trans (hs.le hlt (i := p + 1) (j := k) (by omega) (by omega) (by omega)) (hlt.asym h1)
    · rw [h.out q (by omega)]
      by_cases e3 : p < k
      · rw [h.mid p hp e3]; exact hs _ _ (by omega) (by omega) hq
      · by_cases e4 : p = k
        · rw [e4, h.at']
          rcases h2 with h2 | h2
          · omega
          · exact hlt.trans h2 (hs.le hlt (i := k + 1) (j := q) (by omega) (by omega) hq)
        · rw [h.out p (by omega)]; exact hs _ _ (by omega) hpq hq
/-- The last one goes down to k. -/
structure ShR (D E : List α) (m k : Nat) : Prop where
  mid : ∀ t, k < t → t ≤ m → atL E t = atL D (t - 1)
  at' : atL E k = atL D m
  out : ∀ t, t < k ∨ m < t → atL E t = atL D t
theorem ShR.start (D : List α) (m : Nat) : ShR D D m m := ⟨fun t h1 h2 => by omega, rfl, fun _ _ => rfl⟩
theorem ShR.step (h : ShR D E m k) (hkm : k ≤ m) (hk : k < E.length) (h0 : 0 < k) : ShR D (swapL E k (k - 1)) m (k - 1) := by
  have hs := swapL_at (L := E) (i := k) (j := k - 1) (by omega) (by omega)
  refine ⟨fun t h1 h2 => ?_, ?_, fun t ht => ?_⟩
  · rw [hs, if_neg (by omega)]
    by_cases e : t = k
    · rw [if_pos e, e]; exact h.out _ (by omega)
    · rw [if_neg e]; exact h.mid t (by omega) h2
  · rw [hs, if_pos rfl]; exact h.at'
  · rw [hs, if_neg (by omega), if_neg (by omega)]; exact h.out t (by omega)
theorem ShR.done (h : ShR D E m k) (hlt : IsOrd lt) (hs : SegS lt D a m) (hak : a ≤ k) (hkm : k ≤ m) (h1 : k = a ∨ lt (atL D m) (atL D (k - 1)) = false) (h2 : k = m ∨ lt (atL D m) (atL D k) = true) : SegS lt E a (m + 1) := fun p q hp hpq hq => by
  by_cases e1 : q < k
  · rw [h.out q (by omega), h.out p (by omega)]; exact hs _ _ hp hpq (by omega)
  · by_cases e2 : q = k
    · rw [e2, h.at', h.out p (by omega)]
      rcases h1 with rfl | h1
      · omega
      · exact hlt.trans (hs.le hlt (i := p) (j := k - 1) hp (by omega) (by omega)) h1
    · rw [h.mid q (by omega) (by omega)]
      by_cases e3 : p < k
      · rw [h.out p (by omega)]; exact hs _ _ hp (by omega) (by omega)
      · by_cases e4 : p = k
        · rw [e4, h.at']
          rcases h2 with h2 | h2
          · omega
          · exact hlt.trans (hlt.asym h2) (hs.le hlt (i := k) (j := q - 1) (by omega) (by omega) (by omega))
        · rw [h.mid p (by omega) (by omega)]; exact hs _ _ (by omega) (by omega) (by omega)

/-- n things from a on and n from b on have changed their places. -/
structure SwR (D E : List α) (a b n : Nat) : Prop where
  perm : E.Perm D
  l : ∀ t, t < n → atL E (a + t) = atL D (b + t)
  r : ∀ t, t < n → atL E (b + t) = atL D (a + t)
  out : ∀ k, (k < a ∨ a + n ≤ k) → (k < b ∨ b + n ≤ k) → atL E k = atL D k
theorem SwR.start (D : List α) (a b : Nat) : SwR D D a b 0 := ⟨.refl _, fun t h => by omega, fun t h => by omega, fun _ _ _ => rfl⟩
theorem SwR.step {n : Nat} (h : SwR D E a b n) (hab : a + n < b) (hb : b + n < E.length) : SwR D (swapL E (a + n) (b + n)) a b (n + 1) := by
  have hs := swapL_at (L := E) (i := a + n) (j := b + n) (by omega) (by omega)
  refine ⟨(swapL_perm (by omega) (by omega)).trans h.perm, fun t ht => ?_, fun t ht => ?_, fun k h1 h2 => ?_⟩
  · rw [hs, if_neg (by omega)]
    by_cases e : t = n
    · rw [e, if_pos rfl]; exact h.out _ (by omega) (by omega)
    · rw [if_neg (by omega)]; exact h.l t (by omega)
  · rw [hs]
    by_cases e : t = n
    · rw [e, if_pos rfl]; exact h.out _ (by omega) (by omega)
    · rw [if_neg (by omega), if_neg (by omega)]; exact h.r t (by omega)
  · rw [hs, if_neg (by omega), if_neg (by omega)]; exact h.out k (by omega) (by omega)

/-- Two blocks that stand behind each other have changed their places. -/
structure RotR (D E : List α) (a m b : Nat) : Prop where
  perm : E.Perm D
  l : ∀ k, a ≤ k → k < a + (b - m) → atL E k = atL D (k + (m - a))
  r : ∀ k, a + (b - m) ≤ k → k < b → atL E k = atL D (k - (b - m))
  out : ∀ k, k < a ∨ b ≤ k → atL E k = atL D k
/-- How far it is: what is left to turn stands in [m - i, m + j). -/
structure RotAt (D E : List α) (a m b i j : Nat) : Prop where
  perm : E.Perm D
  i0 : 0 < i
  j0 : 0 < j
  hi : i ≤ m - a
  hj : j ≤ b - m
  fin : ∀ T : List α, (∀ k, a ≤ k → k < a + (b - m) → atL T k = atL D (k + (m - a))) → (∀ k, a + (b - m) ≤ k → k < b → atL T k = atL D (k - (b - m))) → (∀ k, k < a ∨ b ≤ k → atL T k = atL D k) →
    (∀ t, t < j → atL T (m - i + t) = atL E (m + t)) ∧ (∀ t, t < i → atL T (m - i + j + t) = atL E (m - i + t)) ∧ (∀ k, k < m - i ∨ m + j ≤ k → atL T k = atL E k)
theorem RotAt.start (D : List α) (ha : a < m) (hm : m < b) : RotAt D D a m b (m - a) (b - m) := by
  refine ⟨.refl _, by omega, by omega, Nat.le_refl _, Nat.le_refl _, fun T h1 h2 h3 => ⟨fun t ht => ?_, fun t ht => ?_, fun k hk => ?_⟩⟩
  · rw [h1 _ (by omega) (by omega)]; congr 1; omega
  · rw [h2 _ (by omega) (by omega)]; congr 1; omega
  · exact h3 k (by omega)
theorem RotAt.big (h : RotAt D E a m b i j) (hji : j < i) (ha : a < m) {G : List α} (hw : SwR E G (m - i) m j) : RotAt D G a m b (i - j) j := by
  have hia := h.hi
  refine ⟨hw.perm.trans h.perm, by omega, h.j0, by omega, h.hj, fun T h1 h2 h3 => ?_⟩
  obtain ⟨f1, f2, f3⟩ := h.fin T h1 h2 h3
  refine ⟨fun t ht => ?_, fun t ht => ?_, fun k hk => ?_⟩
  · rw [hw.r t ht, ← f2 t (by omega)]; congr 1; omega
  · rw [hw.out _ (by omega) (by omega), show m - (i - j) + t = m - i + (j + t) by omega, ← f2 (j + t) (by omega)]; congr 1; omega
  · by_cases e : k < m - i ∨ m + j ≤ k
    · rw [f3 k e, hw.out k (by omega) (by omega)]
    · have := hw.l (k - (m - i)) (by omega)
      rw [show m - i + (k - (m - i)) = k by omega] at this
      rw [this, ← f1 _ (by omega)]; congr 1; omega
theorem RotAt.small (h : RotAt D E a m b i j) (hij : i < j) (ha : a < m) {G : List α} (hw : SwR E G (m - i) (m + j - i) i) : RotAt D G a m b i (j - i) := by
  have hia := h.hi
  refine ⟨hw.perm.trans h.perm, h.i0, by omega, h.hi, by have := h.hj; omega, fun T h1 h2 h3 => ?_⟩
  obtain ⟨f1, f2, f3⟩ := h.fin T h1 h2 h3
  refine ⟨fun t ht => ?_, fun t ht => ?_, fun k hk => ?_⟩
  · rw [hw.out _ (by omega) (by omega), ← f1 t (by omega)]
  · rw [hw.l t ht, show m + j - i + t = m + (j - i + t) by omega, ← f1 _ (by omega)]; congr 1; omega
  · by_cases e : k < m - i ∨ m + j ≤ k
    · rw [f3 k e, hw.out k (by omega) (by omega)]
    · have := hw.r (k - (m + j - i)) (by omega)
      rw [show m + j - i + (k - (m + j - i)) = k by omega] at this
      rw [this, ← f2 _ (by omega)]; congr 1; omega
/-- What a rotation comes to, by hand. -/
theorem rot_target (D : List α) (ha : a ≤ m) (hm : m ≤ b) (hb : b ≤ D.length) : ∃ T : List α, T.length = D.length ∧ (∀ k, a ≤ k → k < a + (b - m) → atL T k = atL D (k + (m - a))) ∧ (∀ k, a + (b - m) ≤ k → k < b → atL T k = atL D (k - (b - m))) ∧ (∀ k, k < a ∨ b ≤ k → atL T k = atL D k) := by
  refine ⟨(List.range D.length).map fun k => if k < a then atL D k else if k < a + (b - m) then atL D (k + (m - a)) else if k < b then atL D (k - (b - m)) else atL D k, by simp, ?_, ?_, ?_⟩
  all_goals
    intro k
    intros
    have get : ∀ (f : Nat → α), k < D.length → atL ((List.range D.length).map f) k = f k := fun f h => by
      rw [atL_eq (by simpa using h)]; simp
    by_cases hk : k < D.length
    · rw [get _ hk]
      repeat' split
      all_goals first | rfl | (exfalso; omega)
    · first
        | (exfalso; omega)
        | (unfold atL
           rw [List.getD_eq_getElem?_getD, List.getD_eq_getElem?_getD, List.getElem?_eq_none (by simp; omega), List.getElem?_eq_none (by omega)])
theorem atL_ext {T G : List α} (hl : T.length = G.length) (h : ∀ k, k < G.length → atL T k = atL G k) : T = G := by
  refine List.ext_getElem hl fun k h1 h2 => ?_
  have := h k h2
  rwa [atL_eq h1, atL_eq h2] at this
theorem RotAt.done (h : RotAt D E a m b i i) (ha : a < m) (hm : m < b) (hb : b ≤ D.length) {G : List α} (hw : SwR E G (m - i) m i) : RotR D G a m b := by
  have hia := h.hi; have hj := h.hj
  obtain ⟨T, hT, h1, h2, h3⟩ := rot_target D (a := a) (m := m) (b := b) (by omega) (by omega) hb
  obtain ⟨f1, f2, f3⟩ := h.fin T h1 h2 h3
  have e : ∀ k, atL G k = atL T k := fun k => by
    by_cases e1 : k < m - i ∨ m + i ≤ k
    · rw [hw.out k (by omega) (by omega), f3 k e1]
    · by_cases e2 : k < m
      · have := hw.l (k - (m - i)) (by omega)
        rw [show m - i + (k - (m - i)) = k by omega] at this
        rw [this, ← f1 _ (by omega)]; congr 1; omega
      · have := hw.r (k - m) (by omega)
        rw [show m + (k - m) = k by omega] at this
        rw [this, ← f2 _ (by omega)]; congr 1; omega
  exact ⟨hw.perm.trans h.perm, fun k x y => (e k).trans (h1 k x y), fun k x y => (e k).trans (h2 k x y), fun k x => (e k).trans (h3 k x)⟩
theorem RotR.sub (h : RotR D E a m b) (ha : a ≤ m) (hm : m ≤ b) : SubR D E a b :=
  ⟨h.perm, h.out, fun k h1 h2 => by
    by_cases e : k < a + (b - m)
    · exact ⟨_, by omega, by omega, h.l k h1 e⟩
    · exact ⟨_, by omega, by omega, h.r k (by omega) h2⟩⟩
theorem RotR.none (D : List α) (h : a = m ∨ m = b) (ha : a ≤ m) (hm : m ≤ b) : RotR D D a m b := by
  refine ⟨.refl _, fun k h1 h2 => ?_, fun k h1 h2 => ?_, fun _ _ => rfl⟩
  · congr 1; omega
  · congr 1; omega

/-- Behind the rotation: each half in two parts that stand in order; none of the second half is ahead of one of the first. -/
structure Halves (lt : α → α → Bool) (D : List α) (a s mid e b : Nat) : Prop where
  p1 : SegS lt D a s
  p2 : SegS lt D s mid
  p3 : SegS lt D mid e
  p4 : SegS lt D e b
  x : ∀ i j, a ≤ i → i < mid → mid ≤ j → j < b → lt (atL D j) (atL D i) = false
theorem halves_of (hlt : IsOrd lt) {mid lo hi : Nat} (hl : SegS lt D a m) (hr : SegS lt D m b) (ham : a < m) (hmb : m < b) (hmid : mid = (a + b) / 2)
    (hlo : lo = if mid < m then mid + m - b else a) (hhi : hi = if mid < m then mid else m) (hs1 : lo ≤ s) (hs2 : s ≤ hi)
    (hb1 : s = lo ∨ lt (atL D (mid + m - 1 - (s - 1))) (atL D (s - 1)) = false) (hb2 : s = hi ∨ lt (atL D (mid + m - 1 - s)) (atL D s) = true)
    (hrot : RotR D E s m (mid + m - s)) : Halves lt E a s mid (mid + m - s) b ∧ a ≤ s ∧ s ≤ mid ∧ mid ≤ mid + m - s ∧ mid + m - s ≤ b ∧ s ≤ m ∧ m ≤ mid + m - s := by
  have hb : s ≤ mid ∧ s ≤ m ∧ a ≤ s ∧ mid + m - s ≤ b := by
    subst hlo; subst hhi
    split at hs1 <;> split at hs2 <;> omega
  obtain ⟨h1, h2, h3, h4⟩ := hb
  obtain ⟨e, he⟩ : ∃ e, mid + m - s = e := ⟨_, rfl⟩
  rw [he] at hrot h4 ⊢
  have c1 : e - m = mid - s := by omega
  have c2 : s + (e - m) = mid := by omega
  have r1 := hrot.l; have r2 := hrot.r
  rw [c2] at r1 r2
  refine ⟨⟨hl.sub (Nat.le_refl _) h2 |>.same fun k x y => hrot.out k (by omega), ?_, ?_, hr.sub (by omega) (Nat.le_refl _) |>.same fun k x y => hrot.out k (by omega), fun i j i1 i2 j1 j2 => ?_⟩, h3, h1, by omega, h4, h2, by omega⟩
  · exact hr.moved (fun k => k + (m - s)) (fun k x y => ⟨by omega, by omega, r1 k x y⟩) (fun i j _ h _ => by omega)
  · exact hl.moved (fun k => k - (e - m)) (fun k x y => ⟨by omega, by omega, r2 k x y⟩) (fun i j h _ _ => by omega)
  · by_cases e1 : i < s
    · rw [hrot.out i (by omega)]
      by_cases e2 : j < e
      · rw [r2 j j1 e2]; exact hl _ _ i1 (by omega) (by omega)
      · rw [hrot.out j (by omega)]
        rcases hb1 with hb1 | hb1
        · exfalso
          subst hlo
          split at hb1 <;> omega
        · rw [show mid + m - 1 - (s - 1) = e by omega] at hb1
          exact hlt.trans (hlt.trans (hl.le hlt (i := i) (j := s - 1) i1 (by omega) (by omega)) hb1) (hr.le hlt (i := e) (j := j) (by omega) (by omega) j2)
    · rw [r1 i (by omega) i2]
      by_cases e2 : j < e
      · rw [r2 j j1 e2]
        rcases hb2 with hb2 | hb2
        · exfalso
          subst hhi
          split at hb2 <;> omega
        · rw [show mid + m - 1 - s = e - 1 by omega] at hb2
          exact hlt.trans (hlt.trans (hr.le hlt (i := i + (m - s)) (j := e - 1) (by omega) (by omega) (by omega)) (hlt.asym hb2)) (hl.le hlt (i := s) (j := j - (e - m)) (by omega) (by omega) (by omega))
      · rw [hrot.out j (by omega)]; exact hr _ _ (by omega) (by omega) j2
theorem Halves.done {mid : Nat} (h : Halves lt D a s mid e b) {E G : List α} (h1 : SubR D E a mid) (s1 : SegS lt E a mid) (h2 : SubR E G mid b) (s2 : SegS lt G mid b) : SegS lt G a b := fun i j hi hij hj => by
  by_cases e1 : j < mid
  · rw [h2.out j (by omega), h2.out i (by omega)]; exact s1 i j hi hij e1
  · by_cases e2 : i < mid
    · rw [h2.out i (by omega)]
      obtain ⟨j', ja, jb, je⟩ := h2.come j (by omega) hj
      obtain ⟨i', ia, ib, ie⟩ := h1.come i hi e2
      rw [je, ie, h1.out j' (by omega)]
      exact h.x i' j' ia ib ja jb
    · exact s2 i j (by omega) hij hj

/-- The blocks of s things each that begin in [f, t) stand in order, as far as t. -/
def Blks (lt : α → α → Bool) (D : List α) (s f t : Nat) : Prop := ∀ q i j, f ≤ q * s → q * s ≤ i → i < j → j < q * s + s → j < t → lt (atL D j) (atL D i) = false
theorem Blks.nil (lt : α → α → Bool) (D : List α) (s t : Nat) (h : t ≤ k) : Blks lt D s k t := fun q i j h1 h2 h3 h4 h5 => by omega
theorem Blks.seg (h : Blks lt D s k b) {q : Nat} (hq : q * s = a) (hk : k ≤ a) {t : Nat} (ht : t ≤ a + s) (hb : t ≤ b) : SegS lt D a t := fun i j h1 h2 h3 => h q i j (by omega) (by omega) h2 (by omega) (by omega)
/-- One more block, behind those that are done. -/
theorem Blks.grow {t : Nat} (h : Blks lt D s 0 (a)) (hs : SubR D E a t) (hg : SegS lt E a t) {q : Nat} (hq : q * s = a) : Blks lt E s 0 t := fun p i j h1 h2 h3 h4 h5 => by
  by_cases e : j < a
  · rw [hs.out j (by omega), hs.out i (by omega)]; exact h p i j h1 h2 h3 h4 e
  · have : ¬ p < q := fun hp => by
      have := Nat.mul_le_mul_right s (show p + 1 ≤ q from hp)
      rw [Nat.add_mul, Nat.one_mul] at this
      omega
    have := Nat.mul_le_mul_right s (show q ≤ p by omega)
    exact hg i j (by omega) h3 h5
/-- What was not merged yet stays. -/
theorem Blks.keep {t n : Nat} (h : Blks lt D s a n) (hs : SubR D E a t) (hat : a ≤ t) : Blks lt E s t n := fun p i j h1 h2 h3 h4 h5 => by
  rw [hs.out j (by omega), hs.out i (by omega)]; exact h p i j (by omega) h2 h3 h4 h5
theorem Blks.all {n : Nat} (h : Blks lt D s 0 n) (hn : n ≤ s) : SegS lt D 0 n := fun i j h1 h2 h3 => h 0 i j (by omega) (by omega) h2 (by omega) h3
end
end
end Go.Proofs.Ytkbebllkjmccoaa
