/- What package acct's calls do, as plain facts, and what is asked of them (the statements of their contracts, over any layout in memory). Conditions: as each says. -/
import Derived.Test.YtnicfhafepiknaaRising
namespace Go.Proofs.Ytnicfhafepiknaa
open Go.RowKit Go.WideShapes

/-- How much each client has of both assets. -/
abbrev Accts := List (Int × Int)
def GoodA (X : Accts) : Prop := ∀ p ∈ X, U64 p.1 ∧ U64 p.2
/-- The error of a client or an asset that is none. -/
def okE (X : Accts) (c s : Int) : Int := if c < 0 ∨ (X.length : Int) ≤ c then 2 else if s < 0 ∨ 1 < s then 3 else 0
def side (s : Int) (p : Int × Int) : Int := if s = 0 then p.1 else p.2
def amt (X : Accts) (c s : Int) : Int := side s (X.getD c.toNat (0, 0))
def freeA (X : Accts) (c s : Int) : Int := if okE X c s = 0 then amt X c s else 0
def withSide (s v : Int) (p : Int × Int) : Int × Int := if s = 0 then (v, p.2) else (p.1, v)
def setA (X : Accts) (c s v : Int) : Accts := X.set c.toNat (withSide s v (X.getD c.toNat (0, 0)))
def putE (X : Accts) (c s n : Int) : Int := if okE X c s = 0 then (if 18446744073709551616 ≤ amt X c s + n then 5 else 0) else okE X c s
def putX (X : Accts) (c s n : Int) : Accts := if putE X c s n = 0 then setA X c s (amt X c s + n) else X
def takeE (X : Accts) (c s n : Int) : Int := if okE X c s = 0 then (if amt X c s < n then 4 else 0) else okE X c s
def takeX (X : Accts) (c s n : Int) : Accts := if takeE X c s n = 0 then setA X c s (amt X c s - n) else X
def total (X : Accts) (s : Int) : Int := (X.map (side s)).sum
def sumOk (X : Accts) (s : Int) : Bool := decide ((s = 0 ∨ s = 1) ∧ total X s < 18446744073709551616)
def sumV (X : Accts) (s : Int) : Int := if sumOk X s then total X s else 0
def newA (n : Int) : Accts := List.replicate (min (max n 0) 1000).toNat (0, 0)

theorem okE_zero {X : Accts} {c s : Int} : okE X c s = 0 ↔ (0 ≤ c ∧ c < X.length) ∧ (s = 0 ∨ s = 1) := by
  unfold okE
  split
  · next h => constructor
              · intro h2; cases h2
              · rintro ⟨h2, _⟩; omega
  · split
    · constructor
      · intro h2; cases h2
      · rintro ⟨_, h2⟩; omega
    · simp only [true_iff]; omega
theorem side_with (s v : Int) (p : Int × Int) : side s (withSide s v p) = v := by unfold side withSide; split <;> rfl
theorem side_other {s s' : Int} (v : Int) (p : Int × Int) (h : s = 0 ∨ s = 1) (h' : s' = 0 ∨ s' = 1) (hn : s' ≠ s) : side s' (withSide s v p) = side s' p := by
  unfold side withSide
  rcases h with rfl | rfl <;> rcases h' with rfl | rfl <;> simp at hn ⊢
theorem GoodA.at {X : Accts} (h : GoodA X) (c s : Int) : U64 (amt X c s) := by
  unfold amt side
  by_cases hc : c.toNat < X.length
  · have := h _ (List.getElem_mem hc)
    rw [List.getD_eq_getElem?_getD, List.getElem?_eq_getElem hc]
    simp only [Option.getD_some]
    split
    · exact this.1
    · exact this.2
  · rw [List.getD_eq_getElem?_getD, List.getElem?_eq_none (by omega)]
    simp only [Option.getD_none]
    split <;> exact ⟨by omega, by omega⟩
theorem GoodA.set {X : Accts} (h : GoodA X) (c s : Int) {v : Int} (hv : U64 v) : GoodA (setA X c s v) := by
  intro p hp
  rcases List.mem_or_eq_of_mem_set hp with hp | rfl
  · exact h p hp
  · have h0 := h.at c 0
    have h1 := h.at c 1
    unfold amt side at h0 h1
    simp only [if_true] at h0
    rw [if_neg (by decide)] at h1
    unfold withSide
    split
    · exact ⟨hv, h1⟩
    · exact ⟨h0, hv⟩
theorem setA_length (X : Accts) (c s v : Int) : (setA X c s v).length = X.length := by simp [setA]
theorem putX_length (X : Accts) (c s n : Int) : (putX X c s n).length = X.length := by unfold putX; split <;> simp [setA_length]
theorem takeX_length (X : Accts) (c s n : Int) : (takeX X c s n).length = X.length := by unfold takeX; split <;> simp [setA_length]
theorem putE_zero {X : Accts} {c s n : Int} : putE X c s n = 0 ↔ okE X c s = 0 ∧ amt X c s + n < 18446744073709551616 := by
  unfold putE
  split
  · next h =>
    split
    · constructor
      · intro h2; cases h2
      · rintro ⟨_, h2⟩; omega
    · simp only [true_iff]; exact ⟨h, by omega⟩
  · next h => exact ⟨fun h2 => absurd h2 h, fun h2 => absurd h2.1 h⟩
theorem takeE_zero {X : Accts} {c s n : Int} : takeE X c s n = 0 ↔ okE X c s = 0 ∧ n ≤ amt X c s := by
  unfold takeE
  split
  · next h =>
    split
    · constructor
      · intro h2; cases h2
      · rintro ⟨_, h2⟩; omega
    · simp only [true_iff]; exact ⟨h, by omega⟩
  · next h => exact ⟨fun h2 => absurd h2 h, fun h2 => absurd h2.1 h⟩
theorem GoodA.put {X : Accts} (h : GoodA X) (c s : Int) {n : Int} (hn : U64 n) : GoodA (putX X c s n) := by
  unfold putX
  split
  · next he =>
    have h1 := h.at c s
    exact h.set c s ⟨by omega, (putE_zero.1 he).2⟩
  · exact h
theorem GoodA.take {X : Accts} (h : GoodA X) (c s : Int) {n : Int} (hn : U64 n) : GoodA (takeX X c s n) := by
  unfold takeX
  split
  · next he =>
    have h1 := h.at c s
    have h2 := (takeE_zero.1 he).2
    exact h.set c s ⟨by omega, by omega⟩
  · exact h
theorem goodA_new (n : Int) : GoodA (newA n) := fun p hp => by
  rw [List.eq_of_mem_replicate hp]; exact ⟨⟨by decide, by decide⟩, ⟨by decide, by decide⟩⟩
theorem newA_length (n : Int) : ((newA n).length : Int) = min (max n 0) 1000 := by
  unfold newA; rw [List.length_replicate]; omega
theorem total_set_nat (f : Int × Int → Int) : ∀ (X : Accts) (i : Nat) (q : Int × Int), i < X.length → ((X.set i q).map f).sum = (X.map f).sum - f (X.getD i (0, 0)) + f q
  | [], i, q, h => by cases h
  | p :: X, 0, q, _ => by simp; omega
  | p :: X, i + 1, q, h => by
    have ih := total_set_nat f X i q (by simpa using h)
    simp only [List.set_cons_succ, List.map_cons, List.sum_cons, List.getD_cons_succ, ih]
    omega
theorem total_set {X : Accts} {c s v : Int} (hc : 0 ≤ c ∧ c < X.length) : total (setA X c s v) s = total X s - amt X c s + v := by
  unfold total setA
  rw [total_set_nat (side s) X c.toNat _ (by omega), side_with]
  rfl
theorem total_other {X : Accts} {c s s' v : Int} (hc : 0 ≤ c ∧ c < X.length) (h : s = 0 ∨ s = 1) (h' : s' = 0 ∨ s' = 1) (hn : s' ≠ s) : total (setA X c s v) s' = total X s' := by
  unfold total setA
  rw [total_set_nat (side s') X c.toNat _ (by omega), side_other v _ h h' hn]
  omega
theorem amt_nat_le (f : Int × Int → Int) : ∀ (X : Accts), (∀ p ∈ X, 0 ≤ f p) → ∀ i, i < X.length → f (X.getD i (0, 0)) ≤ (X.map f).sum ∧ 0 ≤ (X.map f).sum
  | [], _, i, h => by cases h
  | p :: X, hp, i, hi => by
    have h0 := hp p (by simp)
    have hx : 0 ≤ (X.map f).sum := by
      clear hi
      have hq : ∀ q ∈ X, 0 ≤ f q := fun q hq => hp q (by simp [hq])
      clear hp
      induction X with
      | nil => simp
      | cons q X ih =>
        have h1 := hq q (by simp)
        have h2 := ih (fun r hr => hq r (by simp [hr]))
        simp only [List.map_cons, List.sum_cons]; omega
    rcases i with _ | i
    · simp only [List.getD_cons_zero, List.map_cons, List.sum_cons]; omega
    · have ih := amt_nat_le f X (fun q hq => hp q (by simp [hq])) i (by simpa using hi)
      simp only [List.getD_cons_succ, List.map_cons, List.sum_cons]; omega
theorem side_nonneg {X : Accts} (h : GoodA X) (s : Int) : ∀ p ∈ X, 0 ≤ side s p := fun p hp => by
  have := h p hp
  unfold side
  split
  · exact this.1.1
  · exact this.2.1
theorem amt_le_total {X : Accts} (h : GoodA X) {c : Int} (s : Int) (hc : 0 ≤ c ∧ c < X.length) : amt X c s ≤ total X s :=
  (amt_nat_le (side s) X (side_nonneg h s) c.toNat (by omega)).1

/-- What is asked of package acct's calls. IsA v X: v points to accounts that hold X. -/
structure AcctApi where
  IsA : Value → Accts → HP
  stable : ∀ v X, Stable (IsA v X)
  ptr : ∀ {v X w F}, IsA v X w F → ∃ a, v = .pointer (some a)
  new : ∀ w n, I64 n → Calls Try.prog 10 #[.int .i64 n] w fun e w' => ∃ v F, e = .returned v ∧ IsA v (newA n) w' F ∧ (∀ k, F k → w.heap.size ≤ k) ∧ Below w.heap.size w w'
  free : ∀ {w v X F} (c s : Int), IsA v X w F → I64 c → I64 s →
    Calls Try.prog 15 #[v, .int .i64 c, .int .i64 s] w fun e w' => e = .returned (.int .u64 (freeA X c s)) ∧ Below w.heap.size w w'
  put : ∀ {w v X F} (c s n : Int), IsA v X w F → I64 c → I64 s → U64 n →
    Calls Try.prog 11 #[v, .int .i64 c, .int .i64 s, .int .u64 n] w fun e w' => e = .returned (.int .i64 (putE X c s n)) ∧ Turns F w w' (IsA v (putX X c s n))
  take : ∀ {w v X F} (c s n : Int), IsA v X w F → I64 c → I64 s → U64 n →
    Calls Try.prog 12 #[v, .int .i64 c, .int .i64 s, .int .u64 n] w fun e w' => e = .returned (.int .i64 (takeE X c s n)) ∧ Turns F w w' (IsA v (takeX X c s n))
  sum : ∀ {w v X F} (s : Int), IsA v X w F → I64 s →
    Calls Try.prog 13 #[v, .int .i64 s] w fun e w' => e = .returned (.tuple #[.int .u64 (sumV X s), .bool (sumOk X s)]) ∧ Below w.heap.size w w'
  copy : ∀ {w v X F}, IsA v X w F →
    Calls Try.prog 16 #[v] w fun e w' => ∃ p, e = .returned (.pointer (some p)) ∧ Turns F w w' (star (IsA (.pointer (some p)) X) (IsA v X))

instance acct_stable (T : AcctApi) (v : Value) (X : Accts) : Stable (T.IsA v X) := T.stable v X
section
variable {T : AcctApi} {F0 : Nat → Prop} {w0 w w' : World} {v : Value} {X : Accts} {R : HP}
theorem st_acct (T : AcctApi) {F0 : Nat → Prop} {w0 w : World} (h : Turns F0 w0 w R) [hR : Stable R] (n : Int) (hn : I64 n) : Calls Try.prog 10 #[.int .i64 n] w fun e w' => ∃ p, e = .returned (.pointer (some p)) ∧ Turns F0 w0 w' (star (T.IsA (.pointer (some p)) (newA n)) R) :=
  (T.new w n hn).mono fun e w' ⟨v, F, he, ha, hF, hb⟩ => by
    obtain ⟨p, rfl⟩ := T.ptr ha
    exact ⟨p, he, h.add hb ha hF⟩
theorem Turns.aput (h : Turns F0 w0 w (star (T.IsA v X) R)) [hR : Stable R] (c s n : Int) (hc : I64 c) (hs : I64 s) (hn : U64 n) :
    Calls Try.prog 11 #[v, .int .i64 c, .int .i64 s, .int .u64 n] w fun e w' => e = .returned (.int .i64 (putE X c s n)) ∧ Turns F0 w0 w' (star (T.IsA v (putX X c s n)) R) := by
  refine (h.call (Q := fun e w' F => e = .returned (.int .i64 (putE X c s n)) ∧ T.IsA v (putX X c s n) w' F) (fun F hp => (T.put c s n hp hc hs hn).mono ?_)).mono ?_
  · rintro e w' ⟨he, F', h1, h2, h3⟩
    exact ⟨F', ⟨he, h1⟩, h2, h3⟩
  · rintro e w' hs
    obtain ⟨F, ⟨A', B', ⟨he, hp⟩, r⟩, r2⟩ := hs
    exact ⟨he, F, ⟨A', B', hp, r⟩, r2⟩
theorem Turns.atake (h : Turns F0 w0 w (star (T.IsA v X) R)) [hR : Stable R] (c s n : Int) (hc : I64 c) (hs : I64 s) (hn : U64 n) :
    Calls Try.prog 12 #[v, .int .i64 c, .int .i64 s, .int .u64 n] w fun e w' => e = .returned (.int .i64 (takeE X c s n)) ∧ Turns F0 w0 w' (star (T.IsA v (takeX X c s n)) R) := by
  refine (h.call (Q := fun e w' F => e = .returned (.int .i64 (takeE X c s n)) ∧ T.IsA v (takeX X c s n) w' F) (fun F hp => (T.take c s n hp hc hs hn).mono ?_)).mono ?_
  · rintro e w' ⟨he, F', h1, h2, h3⟩
    exact ⟨F', ⟨he, h1⟩, h2, h3⟩
  · rintro e w' hs
    obtain ⟨F, ⟨A', B', ⟨he, hp⟩, r⟩, r2⟩ := hs
    exact ⟨he, F, ⟨A', B', hp, r⟩, r2⟩
theorem Turns.acopy (h : Turns F0 w0 w (star (T.IsA v X) R)) [hR : Stable R] :
    Calls Try.prog 16 #[v] w fun e w' => ∃ p, e = .returned (.pointer (some p)) ∧ Turns F0 w0 w' (star (T.IsA (.pointer (some p)) X) (star (T.IsA v X) R)) := by
  refine (h.call (Q := fun e w' F => ∃ p, e = .returned (.pointer (some p)) ∧ star (T.IsA (.pointer (some p)) X) (T.IsA v X) w' F) (fun F hp => (T.copy hp).mono ?_)).mono ?_
  · rintro e w' ⟨p, he, F', h1, h2, h3⟩
    exact ⟨F', ⟨p, he, h1⟩, h2, h3⟩
  · rintro e w' hs
    obtain ⟨F, ⟨A', B', ⟨p, he, hp⟩, r⟩, r2⟩ := hs
    exact ⟨p, he, Turns.assoc ⟨F, ⟨A', B', hp, r⟩, r2⟩⟩
theorem Turns.afree (h : Turns F0 w0 w (star (T.IsA v X) R)) [hR : Stable R] (c s : Int) (hc : I64 c) (hs : I64 s) :
    Calls Try.prog 15 #[v, .int .i64 c, .int .i64 s] w fun e w' => e = .returned (.int .u64 (freeA X c s)) ∧ Turns F0 w0 w' (star (T.IsA v X) R) ∧ Below w.heap.size w w' := by
  have h' := h
  obtain ⟨F, ⟨A, B, hp, _⟩, _⟩ := h
  exact (T.free c s hp hc hs).mono fun e w' ⟨he, hb⟩ => ⟨he, h'.more hb, hb⟩
theorem Turns.asum (h : Turns F0 w0 w (star (T.IsA v X) R)) [hR : Stable R] (s : Int) (hs : I64 s) :
    Calls Try.prog 13 #[v, .int .i64 s] w fun e w' => e = .returned (.tuple #[.int .u64 (sumV X s), .bool (sumOk X s)]) ∧ Turns F0 w0 w' (star (T.IsA v X) R) ∧ Below w.heap.size w w' := by
  have h' := h
  obtain ⟨F, ⟨A, B, hp, _⟩, _⟩ := h
  exact (T.sum s hp hs).mono fun e w' ⟨he, hb⟩ => ⟨he, h'.more hb, hb⟩
end
end Go.Proofs.Ytnicfhafepiknaa
