/- What package prio's calls do, as plain facts, and what is asked of them (the statements of their contracts, over any layout in memory). Conditions: as each says. -/
import Derived.Test.YtkbebllkjmccoaaRising
import Derived.Test.YtkbebllkjmccoaaBlk
import Derived.Test.YtkbebllkjmccoaaRowN
namespace Go.Proofs.Ytkbebllkjmccoaa
open Go.RowKit Go.WideShapes

/-- An order. -/
structure OrdV where
  id : Int
  cl : Int
  buy : Bool
  price : Int
  qty : Int
deriving DecidableEq
instance : Inhabited OrdV := ⟨⟨0, 0, false, 0, 0⟩⟩
def OrdV.zero : OrdV := ⟨0, 0, false, 0, 0⟩
def OrdV.val (o : OrdV) : Value := .agg #[.int .i64 o.id, .int .i64 o.cl, .bool o.buy, .int .u64 o.price, .int .u64 o.qty]
/-- .. as it lies in a block. -/
abbrev OrdV.arr (o : OrdV) : Array Value := #[.int .i64 o.id, .int .i64 o.cl, .bool o.buy, .int .u64 o.price, .int .u64 o.qty]
def OrdV.cells (o : OrdV) : List Value := [.int .i64 o.id, .int .i64 o.cl, .bool o.buy, .int .u64 o.price, .int .u64 o.qty]
def OrdV.ok (o : OrdV) : Prop := I64 o.id ∧ I64 o.cl ∧ U64 o.price ∧ U64 o.qty
theorem ok_small {o : OrdV} (h1 : I64 o.id) (h2 : I64 o.cl) (h3 : U64 o.price) (h4 : U64 o.qty) : o.ok := ⟨h1, h2, h3, h4⟩
abbrev Ords := List OrdV
def cellsO (L : Ords) : List Value := L.flatMap OrdV.cells
theorem cellsO_length (L : Ords) : (cellsO L).length = L.length * 5 := by
  induction L with
  | nil => rfl
  | cons p X ih => simp only [cellsO, OrdV.cells, List.flatMap_cons, List.length_append, List.length_cons, List.length_nil] at ih ⊢; omega
theorem cellsO_append (a b : Ords) : cellsO (a ++ b) = cellsO a ++ cellsO b := by simp [cellsO]
theorem cellsO_at {L : Ords} {j i : Nat} (h : j < L.length) (hi : i < 5) : (cellsO L)[j * 5 + i]? = L[j].cells[i]? := by
  have hl : (cellsO (L.take j)).length = j * 5 := by rw [cellsO_length, List.length_take]; omega
  have hs : cellsO L = cellsO (L.take j) ++ (L[j].cells ++ cellsO (L.drop (j + 1))) := by
    conv => lhs; rw [← List.take_append_drop j L, List.drop_eq_getElem_cons h, cellsO_append]
    rfl
  rw [hs, List.getElem?_append_right (by omega), hl, Nat.add_sub_cancel_left, List.getElem?_append_left (by show i < 5; exact hi)]

/-- a stands ahead of b. -/
def aheadO (up : Bool) (a b : OrdV) : Bool := if a.price = b.price then decide (a.id < b.id) else decide (a.price < b.price) == up
theorem ahead_trans {up : Bool} {a b c : OrdV} (h1 : aheadO up a b = true) (h2 : aheadO up b c = true) : aheadO up a c = true := by
  unfold aheadO at *
  cases up
  all_goals
    split at h1 <;> split at h2 <;> split <;> simp at h1 h2 ⊢ <;> omega
theorem ahead_total {up : Bool} {a b : OrdV} (h : a.id ≠ b.id) : aheadO up a b = !aheadO up b a := by
  unfold aheadO
  by_cases e : a.price = b.price
  · rw [if_pos e, if_pos e.symm]
    by_cases h1 : a.id < b.id
    · rw [decide_eq_true h1, decide_eq_false (show ¬ b.id < a.id by omega)]; rfl
    · rw [decide_eq_false h1, decide_eq_true (show b.id < a.id by omega)]; rfl
  · rw [if_neg e, if_neg (fun h => e h.symm)]
    by_cases h1 : a.price < b.price
    · rw [decide_eq_true h1, decide_eq_false (show ¬ b.price < a.price by omega)]; cases up <;> rfl
    · rw [decide_eq_false h1, decide_eq_true (show b.price < a.price by omega)]; cases up <;> rfl
/-- A new order stands behind all that are ahead of it. -/
def insQ (up : Bool) (o : OrdV) : Ords → Ords
  | [] => [o]
  | x :: L => if aheadO up o x then o :: x :: L else x :: insQ up o L
theorem mem_insQ {up : Bool} {o x : OrdV} {L : Ords} : x ∈ insQ up o L ↔ x = o ∨ x ∈ L := by
  induction L with
  | nil => simp [insQ]
  | cons y L ih =>
    unfold insQ
    split
    · simp
    · simp only [List.mem_cons, ih]
      constructor
      · rintro (h | h | h)
        · exact Or.inr (Or.inl h)
        · exact Or.inl h
        · exact Or.inr (Or.inr h)
      · rintro (h | h | h)
        · exact Or.inr (Or.inl h)
        · exact Or.inl h
        · exact Or.inr (Or.inr h)
theorem insQ_length (up : Bool) (o : OrdV) (L : Ords) : (insQ up o L).length = L.length + 1 := by
  induction L with
  | nil => rfl
  | cons y L ih =>
    unfold insQ
    split
    · rfl
    · simp [ih]
theorem insQ_perm (up : Bool) (o : OrdV) (L : Ords) : (insQ up o L).Perm (o :: L) := by
  induction L with
  | nil => exact .refl _
  | cons y L ih =>
    unfold insQ
    split
    · exact .refl _
    · exact (ih.cons y).trans (.swap o y L)
def isId (n : Int) (o : OrdV) : Bool := o.id == n
def notId (n : Int) (o : OrdV) : Bool := !(o.id == n)
def findQ (n : Int) (L : Ords) : Option OrdV := L.find? (isId n)
def rmQ (n : Int) (L : Ords) : Ords := L.filter (notId n)
def cutQ (n : Int) : Ords → Ords
  | [] => []
  | h :: t => if n ≤ h.qty then { h with qty := h.qty - n } :: t else h :: t
theorem cutQ_cons (n : Int) (h : OrdV) (t : Ords) : cutQ n (h :: t) = if n ≤ h.qty then { h with qty := h.qty - n } :: t else h :: t := rfl
/-- What a queue holds: in order, unlike. -/
structure GoodQ (up : Bool) (L : Ords) : Prop where
  sorted : L.Pairwise fun a b => aheadO up a b = true
  ids : L.Pairwise fun a b => a.id ≠ b.id
  ok : ∀ o ∈ L, o.ok
theorem goodQ_nil (up : Bool) : GoodQ up [] := ⟨.nil, .nil, fun o h => by cases h⟩
section
variable {up : Bool} {L : Ords}
theorem GoodQ.push (h : GoodQ up L) {o : OrdV} (ho : o.ok) (hid : ∀ p ∈ L, p.id ≠ o.id) : GoodQ up (insQ up o L) := by
  refine ⟨?_, ?_, fun p hp => ?_⟩
  · have hs := h.sorted
    clear h
    induction L with
    | nil => exact List.pairwise_singleton _ _
    | cons y L ih =>
      obtain ⟨h1, h2⟩ := List.pairwise_cons.1 hs
      unfold insQ
      split
      · next ha =>
        refine List.pairwise_cons.2 ⟨fun z hz => ?_, hs⟩
        rcases List.mem_cons.1 hz with rfl | hz
        · exact ha
        · exact ahead_trans ha (h1 z hz)
      · next ha =>
        refine List.pairwise_cons.2 ⟨fun z hz => ?_, ih (fun p hp => hid p (by simp [hp])) h2⟩
        rcases mem_insQ.1 hz with rfl | hz
        · rw [ahead_total (hid y (by simp))]
          simpa using ha
        · exact h1 z hz
  · exact ((insQ_perm up o L).pairwise_iff (fun {a b} hne => Ne.symm hne)).2 (List.pairwise_cons.2 ⟨fun p hp => (hid p hp).symm, h.ids⟩)
  · rcases mem_insQ.1 hp with rfl | hp
    · exact ho
    · exact h.ok p hp
theorem GoodQ.tail (h : GoodQ up L) : GoodQ up L.tail :=
  ⟨h.sorted.sublist (List.tail_sublist L), h.ids.sublist (List.tail_sublist L), fun o ho => h.ok o (List.mem_of_mem_tail ho)⟩
theorem GoodQ.rm (h : GoodQ up L) (n : Int) : GoodQ up (rmQ n L) :=
  ⟨h.sorted.sublist List.filter_sublist, h.ids.sublist List.filter_sublist, fun o ho => h.ok o (List.mem_filter.1 ho).1⟩
theorem GoodQ.cut (h : GoodQ up L) {n : Int} (hn : U64 n) : GoodQ up (cutQ n L) := by
  rcases L with _ | ⟨x, t⟩
  · exact h
  · rw [cutQ_cons]
    split
    · next hq =>
      obtain ⟨s1, s2⟩ := List.pairwise_cons.1 h.sorted
      obtain ⟨i1, i2⟩ := List.pairwise_cons.1 h.ids
      have ho := h.ok x (by simp)
      refine ⟨List.pairwise_cons.2 ⟨fun z hz => s1 z hz, s2⟩, List.pairwise_cons.2 ⟨fun z hz => i1 z hz, i2⟩, fun o hm => ?_⟩
      rcases List.mem_cons.1 hm with rfl | hm
      · exact ⟨ho.1, ho.2.1, ho.2.2.1, ⟨by show 0 ≤ x.qty - n; omega, by show x.qty - n < _; have := ho.2.2.2; omega⟩⟩
      · exact h.ok o (by simp [hm])
    · exact h
end
theorem cutQ_length (n : Int) (L : Ords) : (cutQ n L).length = L.length := by
  rcases L with _ | ⟨x, t⟩
  · rfl
  · rw [cutQ_cons]; split <;> rfl

/-- What is asked of package prio's calls. IsQ v up L: v points to a queue that holds L. -/
structure PrioApi where
  IsQ : Value → Bool → Ords → HP
  stable : ∀ v up L, Stable (IsQ v up L)
  ptr : ∀ {v up L w F}, IsQ v up L w F → ∃ a, v = .pointer (some a)
  new : ∀ w up, Calls Try.prog 7 #[.bool up] w fun e w' => ∃ v F, e = .returned v ∧ IsQ v up [] w' F ∧ (∀ k, F k → w.heap.size ≤ k) ∧ Below w.heap.size w w'
  push : ∀ {w v up L F} (o : OrdV), IsQ v up L w F → GoodQ up L → L.length ≤ 100000 → o.ok → (∀ p ∈ L, p.id ≠ o.id) →
    Calls Try.prog 8 #[v, o.val] w fun e w' => e = .returned (.tuple #[]) ∧ Turns F w w' (IsQ v up (insQ up o L))
  peek : ∀ {w v up L F}, IsQ v up L w F → GoodQ up L → L.length ≤ 100000 →
    Calls Try.prog 9 #[v] w fun e w' => ∃ o : OrdV, (∀ h t, L = h :: t → o = h) ∧ e = .returned (.tuple #[o.val, .bool (!L.isEmpty)]) ∧ Below w.heap.size w w'
  pop : ∀ {w v up L F}, IsQ v up L w F → GoodQ up L → L.length ≤ 100000 →
    Calls Try.prog 10 #[v] w fun e w' => e = .returned (.tuple #[(L.headD OrdV.zero).val, .bool (!L.isEmpty)]) ∧ Turns F w w' (IsQ v up L.tail)
  cut : ∀ {w v up L F} (n : Int), IsQ v up L w F → GoodQ up L → L.length ≤ 100000 → U64 n →
    Calls Try.prog 15 #[v, .int .u64 n] w fun e w' => e = .returned (.tuple #[]) ∧ Turns F w w' (IsQ v up (cutQ n L))
  remove : ∀ {w v up L F} (n : Int), IsQ v up L w F → GoodQ up L → L.length ≤ 100000 → I64 n →
    Calls Try.prog 14 #[v, .int .i64 n] w fun e w' => ∃ o : OrdV, (∀ p, findQ n L = some p → o = p) ∧ e = .returned (.tuple #[o.val, .bool (findQ n L).isSome]) ∧ Turns F w w' (IsQ v up (rmQ n L))
  find : ∀ {w v up L F} (n : Int), IsQ v up L w F → GoodQ up L → L.length ≤ 100000 → I64 n →
    Calls Try.prog 16 #[v, .int .i64 n] w fun e w' => ∃ o : OrdV, (∀ p, findQ n L = some p → o = p) ∧ e = .returned (.tuple #[o.val, .bool (findQ n L).isSome]) ∧ Below w.heap.size w w'
  all : ∀ {w v up L F}, IsQ v up L w F → GoodQ up L → L.length ≤ 100000 →
    Calls Try.prog 13 #[v] w fun e w' => ∃ x, e = .returned x ∧ Turns F w w' (star (RowN 28 5 x L.length (cellsO L)) (IsQ v up L))
  len : ∀ {w v up L F}, IsQ v up L w F → L.length ≤ 100000 →
    Calls Try.prog 11 #[v] w fun e w' => e = .returned (.int .i64 L.length) ∧ Below w.heap.size w w'

instance queue_stable (T : PrioApi) (v : Value) (up : Bool) (L : Ords) : Stable (T.IsQ v up L) := T.stable v up L
section
variable {T : PrioApi} {F0 : Nat → Prop} {w0 w w' : World} {v : Value} {up : Bool} {L : Ords} {R : HP}
theorem st_queue (T : PrioApi) {F0 : Nat → Prop} {w0 w : World} (h : Turns F0 w0 w R) [hR : Stable R] (up : Bool) : Calls Try.prog 7 #[.bool up] w fun e w' => ∃ p, e = .returned (.pointer (some p)) ∧ Turns F0 w0 w' (star (T.IsQ (.pointer (some p)) up []) R) :=
  (T.new w up).mono fun e w' ⟨v, F, he, ha, hF, hb⟩ => by
    obtain ⟨p, rfl⟩ := T.ptr ha
    exact ⟨p, he, h.add hb ha hF⟩
theorem Turns.qpush (h : Turns F0 w0 w (star (T.IsQ v up L) R)) [hR : Stable R] (o : OrdV) (hg : GoodQ up L) (hl : L.length ≤ 100000) (ho : o.ok) (hid : ∀ p ∈ L, p.id ≠ o.id) :
    Calls Try.prog 8 #[v, o.val] w fun e w' => e = .returned (.tuple #[]) ∧ Turns F0 w0 w' (star (T.IsQ v up (insQ up o L)) R) := by
  refine (h.call (Q := fun e w' F => e = .returned (.tuple #[]) ∧ T.IsQ v up (insQ up o L) w' F) (fun F hp => (T.push o hp hg hl ho hid).mono ?_)).mono ?_
  · rintro e w' ⟨he, F', h1, h2, h3⟩
    exact ⟨F', ⟨he, h1⟩, h2, h3⟩
  · rintro e w' hs
    obtain ⟨F, ⟨A', B', ⟨he, hp⟩, r⟩, r2⟩ := hs
    exact ⟨he, F, ⟨A', B', hp, r⟩, r2⟩
theorem Turns.qpop (h : Turns F0 w0 w (star (T.IsQ v up L) R)) [hR : Stable R] (hg : GoodQ up L) (hl : L.length ≤ 100000) :
    Calls Try.prog 10 #[v] w fun e w' => e = .returned (.tuple #[(L.headD OrdV.zero).val, .bool (!L.isEmpty)]) ∧ Turns F0 w0 w' (star (T.IsQ v up L.tail) R) := by
  refine (h.call (Q := fun e w' F => e = .returned (.tuple #[(L.headD OrdV.zero).val, .bool (!L.isEmpty)]) ∧ T.IsQ v up L.tail w' F) (fun F hp => (T.pop hp hg hl).mono ?_)).mono ?_
  · rintro e w' ⟨he, F', h1, h2, h3⟩
    exact ⟨F', ⟨he, h1⟩, h2, h3⟩
  · rintro e w' hs
    obtain ⟨F, ⟨A', B', ⟨he, hp⟩, r⟩, r2⟩ := hs
    exact ⟨he, F, ⟨A', B', hp, r⟩, r2⟩
theorem Turns.qcut (h : Turns F0 w0 w (star (T.IsQ v up L) R)) [hR : Stable R] (n : Int) (hg : GoodQ up L) (hl : L.length ≤ 100000) (hn : U64 n) :
    Calls Try.prog 15 #[v, .int .u64 n] w fun e w' => e = .returned (.tuple #[]) ∧ Turns F0 w0 w' (star (T.IsQ v up (cutQ n L)) R) := by
  refine (h.call (Q := fun e w' F => e = .returned (.tuple #[]) ∧ T.IsQ v up (cutQ n L) w' F) (fun F hp => (T.cut n hp hg hl hn).mono ?_)).mono ?_
  · rintro e w' ⟨he, F', h1, h2, h3⟩
    exact ⟨F', ⟨he, h1⟩, h2, h3⟩
  · rintro e w' hs
    obtain ⟨F, ⟨A', B', ⟨he, hp⟩, r⟩, r2⟩ := hs
    exact ⟨he, F, ⟨A', B', hp, r⟩, r2⟩
theorem Turns.qremove (h : Turns F0 w0 w (star (T.IsQ v up L) R)) [hR : Stable R] (n : Int) (hg : GoodQ up L) (hl : L.length ≤ 100000) (hn : I64 n) :
    Calls Try.prog 14 #[v, .int .i64 n] w fun e w' => ∃ o : OrdV, (∀ p, findQ n L = some p → o = p) ∧ e = .returned (.tuple #[o.val, .bool (findQ n L).isSome]) ∧ Turns F0 w0 w' (star (T.IsQ v up (rmQ n L)) R) := by
  refine (h.call (Q := fun e w' F => ∃ o : OrdV, ((∀ p, findQ n L = some p → o = p) ∧ e = .returned (.tuple #[o.val, .bool (findQ n L).isSome])) ∧ T.IsQ v up (rmQ n L) w' F) (fun F hp => (T.remove n hp hg hl hn).mono ?_)).mono ?_
  · rintro e w' ⟨o, ho, he, F', h1, h2, h3⟩
    exact ⟨F', ⟨o, ⟨ho, he⟩, h1⟩, h2, h3⟩
  · rintro e w' hs
    obtain ⟨F, ⟨A', B', ⟨o, ⟨ho, he⟩, hp⟩, r⟩, r2⟩ := hs
    exact ⟨o, ho, he, F, ⟨A', B', hp, r⟩, r2⟩
theorem Turns.qallN (h : Turns F0 w0 w (star (T.IsQ v up L) R)) [hR : Stable R] (hg : GoodQ up L) (hl : L.length ≤ 100000) :
    Calls Try.prog 13 #[v] w fun e w' => ∃ x, e = .returned x ∧ Turns F0 w0 w' (star (RowN 28 5 x L.length (cellsO L)) (star (T.IsQ v up L) R)) := by
  refine (h.call (Q := fun e w' F => ∃ x, e = .returned x ∧ star (RowN 28 5 x L.length (cellsO L)) (T.IsQ v up L) w' F) (fun F hp => (T.all hp hg hl).mono ?_)).mono ?_
  · rintro e w' ⟨x, he, F', h1, h2, h3⟩
    exact ⟨F', ⟨x, he, h1⟩, h2, h3⟩
  · rintro e w' hs
    obtain ⟨F, ⟨A', B', ⟨x, he, hp⟩, r⟩, r2⟩ := hs
    exact ⟨x, he, Turns.assoc ⟨F, ⟨A', B', hp, r⟩, r2⟩⟩
theorem Turns.qall (h : Turns F0 w0 w (star (T.IsQ v up L) R)) [hR : Stable R] (hg : GoodQ up L) (hl : L.length ≤ 100000) :
    Calls Try.prog 13 #[v] w fun e w' => ∃ x, e = .returned x ∧ Turns F0 w0 w' (star (RV x L.length (cellsO L)) (star (T.IsQ v up L) R)) :=
  (h.qallN hg hl).mono fun _ _ ⟨x, he, h⟩ => ⟨x, he, h.rown_rv⟩
theorem Turns.qpeek (h : Turns F0 w0 w (star (T.IsQ v up L) R)) [hR : Stable R] (hg : GoodQ up L) (hl : L.length ≤ 100000) :
    Calls Try.prog 9 #[v] w fun e w' => ∃ o : OrdV, (∀ h t, L = h :: t → o = h) ∧ e = .returned (.tuple #[o.val, .bool (!L.isEmpty)]) ∧ Turns F0 w0 w' (star (T.IsQ v up L) R) ∧ Below w.heap.size w w' := by
  have h' := h
  obtain ⟨F, ⟨A, B, hp, _⟩, _⟩ := h
  exact (T.peek hp hg hl).mono fun e w' ⟨o, ho, he, hb⟩ => ⟨o, ho, he, h'.more hb, hb⟩
theorem Turns.qfind (h : Turns F0 w0 w (star (T.IsQ v up L) R)) [hR : Stable R] (n : Int) (hg : GoodQ up L) (hl : L.length ≤ 100000) (hn : I64 n) :
    Calls Try.prog 16 #[v, .int .i64 n] w fun e w' => ∃ o : OrdV, (∀ p, findQ n L = some p → o = p) ∧ e = .returned (.tuple #[o.val, .bool (findQ n L).isSome]) ∧ Turns F0 w0 w' (star (T.IsQ v up L) R) ∧ Below w.heap.size w w' := by
  have h' := h
  obtain ⟨F, ⟨A, B, hp, _⟩, _⟩ := h
  exact (T.find n hp hg hl hn).mono fun e w' ⟨o, ho, he, hb⟩ => ⟨o, ho, he, h'.more hb, hb⟩
theorem Turns.qlen (h : Turns F0 w0 w (star (T.IsQ v up L) R)) [hR : Stable R] (hl : L.length ≤ 100000) :
    Calls Try.prog 11 #[v] w fun e w' => e = .returned (.int .i64 L.length) ∧ Turns F0 w0 w' (star (T.IsQ v up L) R) ∧ Below w.heap.size w w' := by
  have h' := h
  obtain ⟨F, ⟨A, B, hp, _⟩, _⟩ := h
  exact (T.len hp hl).mono fun e w' ⟨he, hb⟩ => ⟨he, h'.more hb, hb⟩
theorem Turns.qpeek_cons {x : OrdV} {t : Ords} (h : Turns F0 w0 w (star (T.IsQ v up (x :: t)) R)) [hR : Stable R] (hg : GoodQ up (x :: t)) (hl : (x :: t).length ≤ 100000) :
    Calls Try.prog 9 #[v] w fun e w' => e = .returned (.tuple #[x.val, .bool true]) ∧ Turns F0 w0 w' (star (T.IsQ v up (x :: t)) R) ∧ Below w.heap.size w w' :=
  (h.qpeek hg hl).mono fun e w' ⟨o, ho, he, r⟩ => by
    obtain rfl := ho _ _ rfl
    exact ⟨he, r⟩
theorem Turns.qpop_cons {x : OrdV} {t : Ords} (h : Turns F0 w0 w (star (T.IsQ v up (x :: t)) R)) [hR : Stable R] (hg : GoodQ up (x :: t)) (hl : (x :: t).length ≤ 100000) :
    Calls Try.prog 10 #[v] w fun e w' => e = .returned (.tuple #[x.val, .bool true]) ∧ Turns F0 w0 w' (star (T.IsQ v up t) R) := h.qpop hg hl
/-- A local order, in a block of its own. -/
theorem Turns.local5 (h : Turns F0 w0 w R) [hR : Stable R] (C : Array Value) (ts : TypeId) :
    ∃ b, b = w.heap.size ∧ Turns F0 w0 (w.alloc (.cells C ts)) (star (Blk b C ts) R) :=
  ⟨_, rfl, h.add ((Below.refl _ _).alloc (Nat.le_refl _) _) (Blk.made _ _ _) (fun k hk => by rw [hk]; exact Nat.le_refl _)⟩
end
/-- An order is stored over another one, cell by cell. -/
theorem Turns.store5 {F0 : Nat → Prop} {w0 w : World} {b : Nat} {o : OrdV} {ts : TypeId} {R : HP} (h : Turns F0 w0 w (star (Blk b o.arr ts) R)) [hR : Stable R] (n : OrdV) :
    (w.cell? ⟨b, 0, none⟩ = some (.int .i64 o.id) ∧ w.frozen? ⟨b, 0, none⟩ = false) ∧
    ((w.setCell ⟨b, 0, none⟩ (.int .i64 n.id)).cell? ⟨b, 1, none⟩ = some (.int .i64 o.cl) ∧ (w.setCell ⟨b, 0, none⟩ (.int .i64 n.id)).frozen? ⟨b, 1, none⟩ = false) ∧
    (((w.setCell ⟨b, 0, none⟩ (.int .i64 n.id)).setCell ⟨b, 1, none⟩ (.int .i64 n.cl)).cell? ⟨b, 2, none⟩ = some (.bool o.buy) ∧ ((w.setCell ⟨b, 0, none⟩ (.int .i64 n.id)).setCell ⟨b, 1, none⟩ (.int .i64 n.cl)).frozen? ⟨b, 2, none⟩ = false) ∧
    ((((w.setCell ⟨b, 0, none⟩ (.int .i64 n.id)).setCell ⟨b, 1, none⟩ (.int .i64 n.cl)).setCell ⟨b, 2, none⟩ (.bool n.buy)).cell? ⟨b, 3, none⟩ = some (.int .u64 o.price) ∧ (((w.setCell ⟨b, 0, none⟩ (.int .i64 n.id)).setCell ⟨b, 1, none⟩ (.int .i64 n.cl)).setCell ⟨b, 2, none⟩ (.bool n.buy)).frozen? ⟨b, 3, none⟩ = false) ∧
    (((((w.setCell ⟨b, 0, none⟩ (.int .i64 n.id)).setCell ⟨b, 1, none⟩ (.int .i64 n.cl)).setCell ⟨b, 2, none⟩ (.bool n.buy)).setCell ⟨b, 3, none⟩ (.int .u64 n.price)).cell? ⟨b, 4, none⟩ = some (.int .u64 o.qty) ∧ ((((w.setCell ⟨b, 0, none⟩ (.int .i64 n.id)).setCell ⟨b, 1, none⟩ (.int .i64 n.cl)).setCell ⟨b, 2, none⟩ (.bool n.buy)).setCell ⟨b, 3, none⟩ (.int .u64 n.price)).frozen? ⟨b, 4, none⟩ = false) ∧
    Turns F0 w0 (((((w.setCell ⟨b, 0, none⟩ (.int .i64 n.id)).setCell ⟨b, 1, none⟩ (.int .i64 n.cl)).setCell ⟨b, 2, none⟩ (.bool n.buy)).setCell ⟨b, 3, none⟩ (.int .u64 n.price)).setCell ⟨b, 4, none⟩ (.int .u64 n.qty)) (star (Blk b n.arr ts) R) := by
  have h1 := h.blk_set 0 (.int .i64 n.id)
  have h2 := h1.blk_set 1 (.int .i64 n.cl)
  have h3 := h2.blk_set 2 (.bool n.buy)
  have h4 := h3.blk_set 3 (.int .u64 n.price)
  have h5 := h4.blk_set 4 (.int .u64 n.qty)
  obtain ⟨_, _, q0, z0⟩ := h.blk
  obtain ⟨_, _, q1, z1⟩ := h1.blk
  obtain ⟨_, _, q2, z2⟩ := h2.blk
  obtain ⟨_, _, q3, z3⟩ := h3.blk
  obtain ⟨_, _, q4, z4⟩ := h4.blk
  exact ⟨⟨q0 0 _ rfl, z0 0⟩, ⟨q1 1 _ rfl, z1 1⟩, ⟨q2 2 _ rfl, z2 2⟩, ⟨q3 3 _ rfl, z3 3⟩, ⟨q4 4 _ rfl, z4 4⟩, h5⟩
theorem Turns.pad2 {F0 : Nat → Prop} {w0 w : World} {A B : HP} (h : Turns F0 w0 w (star A B)) : Turns F0 w0 w (star A (star B nothing)) := h.pad.assoc
end Go.Proofs.Ytkbebllkjmccoaa
