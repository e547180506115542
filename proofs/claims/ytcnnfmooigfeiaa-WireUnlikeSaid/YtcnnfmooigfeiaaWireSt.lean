/- A writer, and a writer beside a reader, carried through a law: what each call leaves, all of it in memory that the law made. Conditions: wire's calls are as their contracts say. -/
import Derived.Test.YtcnnfmooigfeiaaWireApi
namespace Go.Proofs.Ytcnnfmooigfeiaa
open Go.RowKit Go.WideShapes

/-- A writer that the law made (behind w0). -/
def WSt (A : WireApi) (w0 w : World) (v : Value) (l : List UInt8) : Prop :=
  ∃ F, A.IsW w v l F ∧ (∀ k, F k → w0.heap.size ≤ k) ∧ Below w0.heap.size w0 w
/-- A reader that the law made. -/
def RSt (A : WireApi) (w0 w : World) (v : Value) (s : Left8) : Prop :=
  ∃ F, A.IsR w v s F ∧ (∀ k, F k → w0.heap.size ≤ k) ∧ Below w0.heap.size w0 w
/-- A writer and a reader that the law made. -/
def BSt (A : WireApi) (w0 w : World) (v : Value) (l : List UInt8) (r : Value) (s : Left8) : Prop :=
  ∃ F G, A.IsW w v l F ∧ A.IsR w r s G ∧ (∀ k, F k → w0.heap.size ≤ k) ∧ (∀ k, G k → w0.heap.size ≤ k) ∧ (∀ k, F k → ¬ G k) ∧ Below w0.heap.size w0 w

section
variable {A : WireApi} {w0 w w' : World} {v r : Value} {l : List UInt8} {s : Left8}
theorem WSt.below (h : WSt A w0 w v l) : Below w0.heap.size w0 w := by obtain ⟨_, _, _, hb⟩ := h; exact hb
theorem RSt.below (h : RSt A w0 w v s) : Below w0.heap.size w0 w := by obtain ⟨_, _, _, hb⟩ := h; exact hb
theorem BSt.below (h : BSt A w0 w v l r s) : Below w0.heap.size w0 w := by obtain ⟨_, _, _, _, _, _, _, hb⟩ := h; exact hb
theorem BSt.wst (h : BSt A w0 w v l r s) : WSt A w0 w v l := by obtain ⟨F, G, hw, _, hF, _, _, hb⟩ := h; exact ⟨F, hw, hF, hb⟩
theorem BSt.rst (h : BSt A w0 w v l r s) : RSt A w0 w r s := by obtain ⟨F, G, _, hr, _, hG, _, hb⟩ := h; exact ⟨G, hr, hG, hb⟩
theorem WSt.ptr (h : WSt A w0 w v l) : ∃ a, v = .pointer (some a) := by obtain ⟨F, hw, _⟩ := h; exact A.ptrW hw
theorem RSt.ptr (h : RSt A w0 w v s) : ∃ a, v = .pointer (some a) := by obtain ⟨F, hw, _⟩ := h; exact A.ptrR hw
/-- New memory alone: all stays. -/
theorem WSt.more (h : WSt A w0 w v l) (hb : Below w.heap.size w w') : WSt A w0 w' v l := by
  obtain ⟨F, hw, hF, hb0⟩ := h
  exact ⟨F, A.keepW hw (Chg.of_below (F := fun _ => False) hb) (fun _ _ h => h), hF, hb0.trans (hb.mono hb0.size)⟩
theorem RSt.more (h : RSt A w0 w v s) (hb : Below w.heap.size w w') : RSt A w0 w' v s := by
  obtain ⟨F, hw, hF, hb0⟩ := h
  exact ⟨F, A.keepR hw (Chg.of_below (F := fun _ => False) hb) (fun _ _ h => h), hF, hb0.trans (hb.mono hb0.size)⟩
theorem BSt.more (h : BSt A w0 w v l r s) (hb : Below w.heap.size w w') : BSt A w0 w' v l r s := by
  obtain ⟨F, G, hw, hr, hF, hG, hd, hb0⟩ := h
  exact ⟨F, G, A.keepW hw (Chg.of_below (F := fun _ => False) hb) (fun _ _ h => h), A.keepR hr (Chg.of_below (F := fun _ => False) hb) (fun _ _ h => h), hF, hG, hd, hb0.trans (hb.mono hb0.size)⟩
theorem WSt.alloc (h : WSt A w0 w v l) (o : Obj) : WSt A w0 (w.alloc o) v l := h.more ((Below.refl _ _).alloc (Nat.le_refl _) o)
theorem RSt.alloc (h : RSt A w0 w v s) (o : Obj) : RSt A w0 (w.alloc o) v s := h.more ((Below.refl _ _).alloc (Nat.le_refl _) o)
theorem BSt.alloc (h : BSt A w0 w v l r s) (o : Obj) : BSt A w0 (w.alloc o) v l r s := h.more ((Below.refl _ _).alloc (Nat.le_refl _) o)

theorem st_new (A : WireApi) (w0 w : World) (hb0 : Below w0.heap.size w0 w) : Calls Try.prog 9 #[] w fun e w' => ∃ p, e = .returned (.pointer (some p)) ∧ WSt A w0 w' (.pointer (some p)) [] :=
  (A.new w).mono fun e w' ⟨v, F, he, hw, hF, hb⟩ => by
    obtain ⟨p, rfl⟩ := A.ptrW hw
    exact ⟨p, he, F, hw, fun k hk => Nat.le_trans hb0.size (hF k hk), hb0.trans (hb.mono hb0.size)⟩
theorem st_step {F F' : Nat → Prop} (hF : ∀ k, F k → w0.heap.size ≤ k) (hb0 : Below w0.heap.size w0 w) (hc : Chg F w w') (hF' : ∀ k, F' k → F k ∨ w.heap.size ≤ k) :
    (∀ k, F' k → w0.heap.size ≤ k) ∧ Below w0.heap.size w0 w' :=
  ⟨fun k hk => (hF' k hk).elim (hF k) (Nat.le_trans hb0.size), below_chg hb0 hc (fun i hi hf => by have := hF i hf; omega) (Nat.le_refl _)⟩
theorem WSt.num (h : WSt A w0 w v l) (n : Int) (hn : Word n) (hl : l.length ≤ 1073741824) : Calls Try.prog 12 #[v, .int .u64 n] w fun e w' => e = .returned (.tuple #[]) ∧ WSt A w0 w' v (l ++ num8 n) := by
  obtain ⟨F, hw, hF, hb0⟩ := h
  exact (A.num n hw hn hl).mono fun e w' ⟨F', he, hw', hc, hF'⟩ => ⟨he, F', hw', (st_step hF hb0 hc hF').1, (st_step hF hb0 hc hF').2⟩
theorem WSt.int (h : WSt A w0 w v l) (n : Int) (hl : l.length ≤ 1073741824) : Calls Try.prog 10 #[v, .int .i64 n] w fun e w' => e = .returned (.tuple #[]) ∧ WSt A w0 w' v (l ++ num8 (asU n)) := by
  obtain ⟨F, hw, hF, hb0⟩ := h
  exact (A.int n hw hl).mono fun e w' ⟨F', he, hw', hc, hF'⟩ => ⟨he, F', hw', (st_step hF hb0 hc hF').1, (st_step hF hb0 hc hF').2⟩
/-- The bytes of an argument, or of new memory that the writer has not. -/
theorem WSt.text_old (h : WSt A w0 w v l) (a : Option Addr) (n cap : Nat) (t : List UInt8) (hl : l.length ≤ 1073741824) (ht : t.length = n) (hn : n ≤ 1073741824) (hc : n ≤ cap) (ha : a = none → cap = 0) (hr : Lie8 w0 (fun _ => False) a t) :
    Calls Try.prog 11 #[v, .slice a n cap] w fun e w' => e = .returned (.tuple #[]) ∧ WSt A w0 w' v (l ++ text8 t) := by
  obtain ⟨F, hw, hF, hb0⟩ := h
  have hr' : Lie8 w F a t := by
    rcases hr with rfl | ⟨ad, rfl, hb, _, hcell⟩
    · exact Or.inl rfl
    · refine Or.inr ⟨ad, rfl, Nat.lt_of_lt_of_le hb hb0.size, fun hf => ?_, fun j hj => (hb0.cell (p := ad.add j) (by rw [block_add]; exact hb)).trans (hcell j hj)⟩
      have := hF _ hf; omega
  exact (A.text a n cap t hw hl ht hn hc ha hr').mono fun e w' ⟨F', he, hw', hc, hF'⟩ => ⟨he, F', hw', (st_step hF hb0 hc hF').1, (st_step hF hb0 hc hF').2⟩
/-- The bytes of a block that is made just now. -/
theorem WSt.text_new (h : WSt A w0 w v l) (o : Obj) (n cap : Nat) (t : List UInt8) (hl : l.length ≤ 1073741824) (ht : t.length = n) (hn : n ≤ 1073741824) (hc : n ≤ cap)
    (hr : ∀ j (h : j < t.length), (w.alloc o).cell? ⟨w.heap.size, j, none⟩ = some (.int .u8 (t[j].toNat : Int))) :
    Calls Try.prog 11 #[v, .slice (some ⟨w.heap.size, 0, none⟩) n cap] (w.alloc o) fun e w' => e = .returned (.tuple #[]) ∧ WSt A w0 w' v (l ++ text8 t) := by
  obtain ⟨F, hw, hF, hb0⟩ := h
  have hba : Below w.heap.size w (w.alloc o) := (Below.refl _ _).alloc (Nat.le_refl _) o
  have hw1 := A.keepW hw (Chg.of_below (F := fun _ => False) hba) (fun _ _ h => h)
  have hb1 := hb0.trans (hba.mono hb0.size)
  have hr' : Lie8 (w.alloc o) F (some ⟨w.heap.size, 0, none⟩) t :=
    Or.inr ⟨_, rfl, by simp, fun hf => by have := A.ltW hw _ hf; simp at this, fun j hj => by rw [add_plain, Nat.zero_add]; exact hr j hj⟩
  exact (A.text _ n cap t hw1 hl ht hn hc (fun h => by cases h) hr').mono fun e w' ⟨F', he, hw', hc, hF'⟩ => ⟨he, F', hw', (st_step hF hb1 hc hF').1, (st_step hF hb1 hc hF').2⟩
theorem WSt.bytes (h : WSt A w0 w v l) (hl : l.length ≤ 2147483648) : Calls Try.prog 13 #[v] w fun e w' => ∃ x, e = .returned x ∧ Fresh8 w w' x l ∧ WSt A w0 w' v l := by
  have h' := h
  obtain ⟨F, hw, hF, hb0⟩ := h
  exact (A.bytes hw hl).mono fun e w' ⟨x, he, hf⟩ => ⟨x, he, hf, h'.more hf.2⟩
theorem BSt.bytes (h : BSt A w0 w v l r s) (hl : l.length ≤ 2147483648) : Calls Try.prog 13 #[v] w fun e w' => ∃ x, e = .returned x ∧ Fresh8 w w' x l ∧ BSt A w0 w' v l r s := by
  have h' := h
  obtain ⟨F, _, hw, _⟩ := h
  exact (A.bytes hw hl).mono fun e w' ⟨x, he, hf⟩ => ⟨x, he, hf, h'.more hf.2⟩
/-- A reader of bytes that lie in memory. -/
theorem RSt.read (A : WireApi) {w0 w : World} (hb0 : Below w0.heap.size w0 w) (a : Option Addr) (n cap : Nat) (l : List UInt8) (hn : l.length = n) (hb : n ≤ 1073741824) (hc : n ≤ cap) (ha : a = none → cap = 0) (hr : Lie8 w (fun _ => False) a l) :
    Calls Try.prog 16 #[.slice a n cap] w fun e w' => ∃ p, e = .returned (.pointer (some p)) ∧ RSt A w0 w' (.pointer (some p)) (some l) ∧ Below w.heap.size w w' :=
  (A.read a n cap l hn hb hc ha hr).mono fun e w' ⟨v, F, he, hw, hF, hb⟩ => by
    obtain ⟨p, rfl⟩ := A.ptrR hw
    exact ⟨p, he, ⟨F, hw, fun k hk => Nat.le_trans hb0.size (hF k hk), hb0.trans (hb.mono hb0.size)⟩, hb⟩
theorem WSt.read (h : WSt A w0 w v l) (a : Option Addr) (n cap : Nat) (b : List UInt8) (hn : b.length = n) (hbn : n ≤ 1073741824) (hc : n ≤ cap) (ha : a = none → cap = 0) (hr : Lie8 w (fun _ => False) a b) :
    Calls Try.prog 16 #[.slice a n cap] w fun e w' => ∃ p, e = .returned (.pointer (some p)) ∧ BSt A w0 w' v l (.pointer (some p)) (some b) ∧ Below w.heap.size w w' := by
  have h' := h
  obtain ⟨F, hw, hF, hb0⟩ := h
  refine (A.read a n cap b hn hbn hc ha hr).mono fun e w' ⟨r, G, he, hr, hG, hb⟩ => ?_
  obtain ⟨p, rfl⟩ := A.ptrR hr
  exact ⟨p, he, ⟨F, G, A.keepW hw (Chg.of_below (F := fun _ => False) hb) (fun _ _ h => h), hr, hF, fun k hk => Nat.le_trans hb0.size (hG k hk),
    fun k hf hg => by have := A.ltW hw k hf; have := hG k hg; omega, hb0.trans (hb.mono hb0.size)⟩, hb⟩
theorem bst_step {F G G' : Nat → Prop} (hFl : ∀ k, F k → k < w.heap.size) (hG : ∀ k, G k → w0.heap.size ≤ k) (hd : ∀ k, F k → ¬ G k) (hb0 : Below w0.heap.size w0 w) (hG' : ∀ k, G' k → G k ∨ w.heap.size ≤ k) :
    (∀ k, G' k → w0.heap.size ≤ k) ∧ (∀ k, F k → ¬ G' k) :=
  ⟨fun k hk => (hG' k hk).elim (hG k) (Nat.le_trans hb0.size), fun k hf hg => (hG' k hg).elim (hd k hf) (fun h => by have := hFl k hf; omega)⟩
theorem BSt.rnum (h : BSt A w0 w v l r s) : Calls Try.prog 20 #[r] w fun e w' => e = .returned (.int .u64 (nextNum s).1) ∧ BSt A w0 w' v l r (nextNum s).2 := by
  obtain ⟨F, G, hw, hr, hF, hG, hd, hb0⟩ := h
  exact (A.rnum hr).mono fun e w' ⟨G', he, hr', hc, hG'⟩ =>
    ⟨he, F, G', A.keepW hw hc hd, hr', hF, (bst_step (A.ltW hw) hG hd hb0 hG').1, (bst_step (A.ltW hw) hG hd hb0 hG').2, (st_step hG hb0 hc hG').2⟩
theorem BSt.rint (h : BSt A w0 w v l r s) : Calls Try.prog 21 #[r] w fun e w' => e = .returned (.int .i64 (asI (nextNum s).1)) ∧ BSt A w0 w' v l r (nextNum s).2 := by
  obtain ⟨F, G, hw, hr, hF, hG, hd, hb0⟩ := h
  exact (A.rint hr).mono fun e w' ⟨G', he, hr', hc, hG'⟩ =>
    ⟨he, F, G', A.keepW hw hc hd, hr', hF, (bst_step (A.ltW hw) hG hd hb0 hG').1, (bst_step (A.ltW hw) hG hd hb0 hG').2, (st_step hG hb0 hc hG').2⟩
/-- The text that is told lies in new memory, and not the reader's. -/
theorem BSt.rtext (h : BSt A w0 w v l r s) : Calls Try.prog 17 #[r] w fun e w' =>
    ∃ x, e = .returned x ∧ w'.ownsRow w.heap.size 5 1 x (nextText s).1.length (cells8 (nextText s).1) ∧ BSt A w0 w' v l r (nextText s).2 := by
  obtain ⟨F, G, hw, hr, hF, hG, hd, hb0⟩ := h
  exact (A.rtext hr).mono fun e w' ⟨x, G', he, hx, hr', hc, hG', _⟩ =>
    ⟨x, he, hx, F, G', A.keepW hw hc hd, hr', hF, (bst_step (A.ltW hw) hG hd hb0 hG').1, (bst_step (A.ltW hw) hG hd hb0 hG').2, (st_step hG hb0 hc hG').2⟩
theorem RSt.rnum (h : RSt A w0 w r s) : Calls Try.prog 20 #[r] w fun e w' => e = .returned (.int .u64 (nextNum s).1) ∧ RSt A w0 w' r (nextNum s).2 := by
  obtain ⟨G, hr, hG, hb0⟩ := h
  exact (A.rnum hr).mono fun e w' ⟨G', he, hr', hc, hG'⟩ => ⟨he, G', hr', (st_step hG hb0 hc hG').1, (st_step hG hb0 hc hG').2⟩
theorem RSt.rint (h : RSt A w0 w r s) : Calls Try.prog 21 #[r] w fun e w' => e = .returned (.int .i64 (asI (nextNum s).1)) ∧ RSt A w0 w' r (nextNum s).2 := by
  obtain ⟨G, hr, hG, hb0⟩ := h
  exact (A.rint hr).mono fun e w' ⟨G', he, hr', hc, hG'⟩ => ⟨he, G', hr', (st_step hG hb0 hc hG').1, (st_step hG hb0 hc hG').2⟩
theorem RSt.rtext (h : RSt A w0 w r s) : Calls Try.prog 17 #[r] w fun e w' =>
    ∃ x, e = .returned x ∧ w'.ownsRow w.heap.size 5 1 x (nextText s).1.length (cells8 (nextText s).1) ∧ RSt A w0 w' r (nextText s).2 := by
  obtain ⟨G, hr, hG, hb0⟩ := h
  exact (A.rtext hr).mono fun e w' ⟨x, G', he, hx, hr', hc, hG', _⟩ => ⟨x, he, hx, G', hr', (st_step hG hb0 hc hG').1, (st_step hG hb0 hc hG').2⟩
theorem RSt.done (h : RSt A w0 w r s) : Calls Try.prog 18 #[r] w fun e w' => e = .returned (.bool (decide (s = some []))) ∧ RSt A w0 w' r s := by
  have h' := h
  obtain ⟨G, hr, _⟩ := h
  exact (A.done hr).mono fun e w' ⟨he, hb⟩ => ⟨he, h'.more hb⟩
theorem BSt.done (h : BSt A w0 w v l r s) : Calls Try.prog 18 #[r] w fun e w' => e = .returned (.bool (decide (s = some []))) ∧ BSt A w0 w' v l r s := by
  have h' := h
  obtain ⟨_, G, _, hr, _⟩ := h
  exact (A.done hr).mono fun e w' ⟨he, hb⟩ => ⟨he, h'.more hb⟩
end
end Go.Proofs.Ytcnnfmooigfeiaa
