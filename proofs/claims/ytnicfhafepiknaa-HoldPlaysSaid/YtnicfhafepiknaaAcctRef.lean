/- The document's own accounts: Free, Put and Take. Conditions: they lie in memory. -/
import Derived.Test.YtnicfhafepiknaaAcctAwake
import Derived.Test.YtnicfhafepiknaaRowN
namespace Go.Proofs.Ytnicfhafepiknaa
open Go.RowKit Go.WideShapes

/-- The cells of accounts. -/
def cellsA (X : Accts) : List Value := X.flatMap fun p => [.int .u64 p.1, .int .u64 p.2]
theorem cellsA_length (X : Accts) : (cellsA X).length = X.length * 2 := by
  induction X with
  | nil => rfl
  | cons p X ih => simp only [cellsA, List.flatMap_cons, List.length_append, List.length_cons, List.length_nil] at ih ⊢; omega
theorem cellsA_append (a b : Accts) : cellsA (a ++ b) = cellsA a ++ cellsA b := by simp [cellsA]
theorem cellsA_split {X : Accts} {j : Nat} (h : j < X.length) : cellsA X = cellsA (X.take j) ++ ([.int .u64 X[j].1, .int .u64 X[j].2] ++ cellsA (X.drop (j + 1))) := by
  conv => lhs; rw [← List.take_append_drop j X, List.drop_eq_getElem_cons h, cellsA_append]
  rfl
theorem cellsA_at {X : Accts} {j : Nat} (h : j < X.length) : (cellsA X)[j * 2]? = some (.int .u64 X[j].1) ∧ (cellsA X)[j * 2 + 1]? = some (.int .u64 X[j].2) := by
  have hl : (cellsA (X.take j)).length = j * 2 := by rw [cellsA_length, List.length_take]; omega
  rw [cellsA_split h]
  constructor
  · rw [List.getElem?_append_right (by omega), hl, Nat.sub_self]; rfl
  · rw [List.getElem?_append_right (by omega), hl, Nat.add_sub_cancel_left]; rfl
theorem cellsA_set {X : Accts} {j : Nat} (h : j < X.length) (v : Int) : (cellsA X).set (j * 2) (.int .u64 v) = cellsA (X.set j (v, X[j].2)) ∧ (cellsA X).set (j * 2 + 1) (.int .u64 v) = cellsA (X.set j (X[j].1, v)) := by
  have hl : (cellsA (X.take j)).length = j * 2 := by rw [cellsA_length, List.length_take]; omega
  have hs : ∀ q : Int × Int, cellsA (X.set j q) = cellsA (X.take j) ++ ([.int .u64 q.1, .int .u64 q.2] ++ cellsA (X.drop (j + 1))) := fun q => by
    rw [List.set_eq_take_append_cons_drop, if_pos h, cellsA_append]
    rfl
  rw [hs, hs, cellsA_split h]
  constructor
  · rw [List.set_append_right _ _ (by omega), hl, Nat.sub_self]; rfl
  · rw [List.set_append_right _ _ (by omega), hl, Nat.add_sub_cancel_left]; rfl
/-- v points to the document's accounts that hold X. -/
def AccAt (b : Nat) (s : Value) (X : Accts) : HP := star (Blk b #[s] 71) (RowN 73 2 s X.length (cellsA X))
instance AccAt.stable (b : Nat) (s : Value) (X : Accts) : Stable (AccAt b s X) := by unfold AccAt; infer_instance
def IsAcc (v : Value) (X : Accts) : HP := fun w F => ∃ b s, v = .pointer (some ⟨b, 0, none⟩) ∧ AccAt b s X w F
instance IsAcc.stable (v : Value) (X : Accts) : Stable (IsAcc v X) := by unfold IsAcc; infer_instance

section
variable {w : World} {b : Nat} {s : Value} {X : Accts} {F : Nat → Prop}
set_option maxRecDepth 100000 in
set_option maxHeartbeats 4000000 in
theorem ris_any (c t : Int) (h : AccAt b s X w F) :
    Calls Try.prog 40 #[.pointer (some ⟨b, 0, none⟩), .int .i64 c, .int .i64 t] w fun e w' => e = .returned (.int .i64 (okE X c t)) ∧ w' = w := by
  have h0 := Turns.begin h
  obtain ⟨_, _, hc, _⟩ := Turns.blk h0
  obtain ⟨As, cs, rfl⟩ := rowN_form h0.comm.rowN
  have c0 := hc 0 _ rfl
  unfold okE
  obtain ⟨n, hn⟩ : ∃ n, X.length = n := ⟨_, rfl⟩
  rw [hn] at c0 ⊢
  clear h h0 hc hn
  by_cases h1 : c < 0
  · rw [if_pos (Or.inl h1)]
    have b1 : decide (c < 0) = true := decide_eq_true h1
    clear h1
    go_enter Try.func40, Try.ntmps40
    go_wp2_with fail
    go_ret
    exact ⟨rfl, rfl⟩
  · have b1 : decide (c < 0) = false := decide_eq_false h1
    by_cases h2 : (n : Int) ≤ c
    · rw [if_pos (Or.inr h2)]
      have b2 : decide ((n : Int) ≤ c) = true := decide_eq_true h2
      clear h1 h2
      go_enter Try.func40, Try.ntmps40
      go_wp2_with fail
      go_ret
      exact ⟨rfl, rfl⟩
    · rw [if_neg (fun h => h.elim h1 h2)]
      have b2 : decide ((n : Int) ≤ c) = false := decide_eq_false h2
      clear h1 h2
      by_cases h3 : t < 0
      · rw [if_pos (Or.inl h3)]
        have b3 : decide (t < 0) = true := decide_eq_true h3
        clear h3
        go_enter Try.func40, Try.ntmps40
        go_wp2_with fail
        go_ret
        exact ⟨rfl, rfl⟩
      · have b3 : decide (t < 0) = false := decide_eq_false h3
        by_cases h4 : 1 < t
        · rw [if_pos (Or.inr h4)]
          have b4 : decide (1 < t) = true := decide_eq_true h4
          clear h3 h4
          go_enter Try.func40, Try.ntmps40
          go_wp2_with fail
          go_ret
          exact ⟨rfl, rfl⟩
        · rw [if_neg (fun h => h.elim h3 h4)]
          have b4 : decide (1 < t) = false := decide_eq_false h4
          clear h3 h4
          go_enter Try.func40, Try.ntmps40
          go_wp2_with fail
          go_ret
          exact ⟨rfl, rfl⟩
end
theorem radd6_any {w : World} {a b : Int} (ha : U64 a) (hb : U64 b) : Calls Try.prog 41 #[.int .u64 a, .int .u64 b] w fun e w' => e = .returned (.tuple #[.int .u64 (if a + b < 18446744073709551616 then a + b else 0), .bool (decide (a + b < 18446744073709551616))]) ∧ w' = w := by
  have hw : IntKind.u64.wrap (18446744073709551615 - b) = 18446744073709551615 - b := IntWalk.u64_in _ (by omega)
  by_cases h : a + b < 18446744073709551616
  · rw [if_pos h, decide_eq_true h]
    have hw2 : IntKind.u64.wrap (a + b) = a + b := IntWalk.u64_in _ (by omega)
    have b1 : decide (18446744073709551615 - b < a) = false := decide_eq_false (by omega)
    clear h ha hb
    go_enter Try.func41, Try.ntmps41
    go_wp2_with fail
    go_ret2
    exact ⟨rfl, rfl⟩
  · rw [if_neg h, decide_eq_false h]
    have b1 : decide (18446744073709551615 - b < a) = true := decide_eq_true (by omega)
    clear h ha hb
    go_enter Try.func41, Try.ntmps41
    go_wp2_with fail
    go_ret2
    exact ⟨rfl, rfl⟩
theorem rsub6_any {w : World} {a b : Int} (ha : U64 a) (hb : U64 b) : Calls Try.prog 42 #[.int .u64 a, .int .u64 b] w fun e w' => e = .returned (.tuple #[.int .u64 (if a < b then 0 else a - b), .bool (decide (b ≤ a))]) ∧ w' = w := by
  by_cases h : a < b
  · rw [if_pos h, decide_eq_false (show ¬ b ≤ a by omega)]
    have b1 : decide (a < b) = true := decide_eq_true h
    clear h ha hb
    go_enter Try.func42, Try.ntmps42
    go_wp2_with fail
    go_ret2
    exact ⟨rfl, rfl⟩
  · rw [if_neg h, decide_eq_true (show b ≤ a by omega)]
    have b1 : decide (a < b) = false := decide_eq_false h
    have hw : IntKind.u64.wrap (a - b) = a - b := IntWalk.u64_in _ (by omega)
    clear h ha hb
    go_enter Try.func42, Try.ntmps42
    go_wp2_with fail
    go_ret2
    exact ⟨rfl, rfl⟩
end Go.Proofs.Ytnicfhafepiknaa
