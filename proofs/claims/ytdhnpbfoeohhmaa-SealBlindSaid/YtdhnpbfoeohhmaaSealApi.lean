/- What package seal's calls do, as plain facts, and what is asked of them (the statements of their contracts, over any layout in memory). Conditions: as each says. -/
import Derived.Test.YtdhnpbfoeohhmaaRising
import Derived.Test.YtdhnpbfoeohhmaaB8
namespace Go.Proofs.Ytdhnpbfoeohhmaa
open Go.RowKit Go.WideShapes

/-- The ciphers, in order: each with its label and its text. -/
abbrev Texts := List (Int × List UInt8)
def isC (T : Texts) (c : Int) : Bool := decide (1 ≤ c ∧ c ≤ T.length)
/-- Only ciphers that are ones were shared. -/
def OnlyC (T : Texts) (L : List (Int × Int)) : Prop := ∀ p ∈ L, isC T p.2 = true
def shareAdd (T : Texts) (L : List (Int × Int)) (who c : Int) : List (Int × Int) := if isC T c then signAdd L (who, c) else L
def openOk (need : Int) (T : Texts) (L : List (Int × Int)) (label c : Int) : Bool := isC T c && (decide (max need 1 ≤ ((allOf L c).length : Int)) && decide ((T.getD (c - 1).toNat (0, [])).1 = label))
def openRow (need : Int) (T : Texts) (L : List (Int × Int)) (label c : Int) : List UInt8 := if openOk need T L label c then (T.getD (c - 1).toNat (0, [])).2 else []
theorem isC_iff {T : Texts} {c : Int} : isC T c = true ↔ 1 ≤ c ∧ c ≤ T.length := decide_eq_true_iff
theorem isC_more {T : Texts} {c : Int} (p : Int × List UInt8) (h : isC T c = true) : isC (T ++ [p]) c = true := by
  rw [isC_iff] at h ⊢
  rw [List.length_append]
  simp only [List.length_cons, List.length_nil]
  omega
theorem onlyC_nil (T : Texts) : OnlyC T [] := fun p hp => by cases hp
theorem OnlyC.more {T : Texts} {L : List (Int × Int)} (h : OnlyC T L) (p : Int × List UInt8) : OnlyC (T ++ [p]) L := fun q hq => isC_more p (h q hq)
theorem OnlyC.share {T : Texts} {L : List (Int × Int)} (h : OnlyC T L) (who c : Int) : OnlyC T (shareAdd T L who c) := by
  unfold shareAdd
  split
  · next hc =>
    intro q hq
    rcases mem_signAdd.1 hq with rfl | hq
    · exact hc
    · exact h q hq
  · exact h
theorem OnlyC.none {T : Texts} {L : List (Int × Int)} (h : OnlyC T L) {c : Int} (hc : isC T c = false) : allOf L c = [] :=
  allOf_is List.Pairwise.nil fun x => ⟨fun hx => (by cases hx), fun hx => by have := h _ hx; rw [hc] at this; cases this⟩
theorem shareAdd_length (T : Texts) (L : List (Int × Int)) (who c : Int) : (shareAdd T L who c).length ≤ L.length + 1 := by
  unfold shareAdd
  split
  · exact signAdd_length _ _
  · omega
theorem openRow_le {need : Int} {T : Texts} {L : List (Int × Int)} {label c : Int} {m : Nat} (h : ∀ p ∈ T, p.2.length ≤ m) : (openRow need T L label c).length ≤ m := by
  unfold openRow
  split
  · next ho =>
    have hi : isC T c = true := by unfold openOk at ho; simp only [Bool.and_eq_true] at ho; exact ho.1
    rw [isC_iff] at hi
    have hl : (c - 1).toNat < T.length := by omega
    rw [List.getD, List.getElem?_eq_getElem hl]
    exact h _ (List.getElem_mem hl)
  · simp

/-- What is asked of package seal's calls. IsV v need T L: v points to a vault with the ciphers T, shared as L says. -/
structure SealApi where
  IsV : Value → Int → Texts → List (Int × Int) → HP
  stable : ∀ v n T L, Stable (IsV v n T L)
  /-- How long a text may be at most. -/
  lim : Nat
  lim_ge : 1000 ≤ lim
  ptr : ∀ {v n T L w F}, IsV v n T L w F → ∃ a, v = .pointer (some a)
  new : ∀ w n, I64 n → Calls Try.prog 9 #[.int .i64 n] w fun e w' => ∃ v F, e = .returned v ∧ IsV v n [] [] w' F ∧ (∀ k, F k → w.heap.size ≤ k) ∧ Below w.heap.size w w'
  seal_ : ∀ {w v n T L F} (label : Int) (A : Option Addr) (len cap : Nat) (t : List UInt8), IsV v n T L w F → T.length ≤ 1000000 → I64 label → t.length = len → len ≤ lim → len ≤ cap → (A = none → cap = 0) → Lie8 w (fun _ => False) A t →
    Calls Try.prog 10 #[v, .int .i64 label, .slice A len cap] w fun e w' => e = .returned (.int .i64 ((T.length : Int) + 1)) ∧ Turns F w w' (IsV v n (T ++ [(label, t)]) L)
  share : ∀ {w v n T L F} (who c : Int), IsV v n T L w F → T.length ≤ 1000000 → L.length ≤ 1000000 → OnlyC T L → I64 who → I64 c →
    Calls Try.prog 14 #[v, .int .i64 who, .int .i64 c] w fun e w' => e = .returned (.bool (isC T c)) ∧ Turns F w w' (IsV v n T (shareAdd T L who c))
  shared : ∀ {w v n T L F} (who c : Int), IsV v n T L w F → T.length ≤ 1000000 → L.length ≤ 1000000 → OnlyC T L → I64 who → I64 c →
    Calls Try.prog 15 #[v, .int .i64 who, .int .i64 c] w fun e w' => e = .returned (.bool (decide ((who, c) ∈ L))) ∧ Below w.heap.size w w'
  shares : ∀ {w v n T L F} (c : Int), IsV v n T L w F → T.length ≤ 1000000 → L.length ≤ 1000000 → OnlyC T L → I64 c →
    Calls Try.prog 13 #[v, .int .i64 c] w fun e w' => ∃ x, e = .returned x ∧ Turns F w w' (star (RI x (allOf L c)) (IsV v n T L))
  open_ : ∀ {w v n T L F} (label c : Int), IsV v n T L w F → T.length ≤ 1000000 → L.length ≤ 1000000 → OnlyC T L → I64 label → I64 c →
    Calls Try.prog 11 #[v, .int .i64 label, .int .i64 c] w fun e w' => ∃ x, e = .returned (.tuple #[x, .bool (openOk n T L label c)]) ∧ Turns F w w' (star (R8 x (openRow n T L label c)) (IsV v n T L))
  len : ∀ {w v n T L F}, IsV v n T L w F → T.length ≤ 1000000 → Calls Try.prog 16 #[v] w fun e w' => e = .returned (.int .i64 T.length) ∧ Below w.heap.size w w'

instance vault_stable (T : SealApi) (v : Value) (n : Int) (X : Texts) (L : List (Int × Int)) : Stable (T.IsV v n X L) := T.stable v n X L
section
variable {S : SealApi} {F0 : Nat → Prop} {w0 w w' : World} {v : Value} {n : Int} {T : Texts} {L : List (Int × Int)} {R : HP}
theorem st_vault (S : SealApi) {F0 : Nat → Prop} {w0 w : World} (h : Turns F0 w0 w R) [hR : Stable R] (n : Int) (hn : I64 n) : Calls Try.prog 9 #[.int .i64 n] w fun e w' => ∃ p, e = .returned (.pointer (some p)) ∧ Turns F0 w0 w' (star (S.IsV (.pointer (some p)) n [] []) R) :=
  (S.new w n hn).mono fun e w' ⟨v, F, he, ha, hF, hb⟩ => by
    obtain ⟨p, rfl⟩ := S.ptr ha
    exact ⟨p, he, h.add hb ha hF⟩
theorem Turns.vseal (h : Turns F0 w0 w (star (S.IsV v n T L) R)) [hR : Stable R] (label : Int) (A : Option Addr) (len cap : Nat) (t : List UInt8) (hT : T.length ≤ 1000000) (hl : I64 label) (ht : t.length = len) (hn : len ≤ S.lim) (hc : len ≤ cap) (hA : A = none → cap = 0) (hlie : Lie8 w (fun _ => False) A t) :
    Calls Try.prog 10 #[v, .int .i64 label, .slice A len cap] w fun e w' => e = .returned (.int .i64 ((T.length : Int) + 1)) ∧ Turns F0 w0 w' (star (S.IsV v n (T ++ [(label, t)]) L) R) := by
  refine (h.call (Q := fun e w' F => e = .returned (.int .i64 ((T.length : Int) + 1)) ∧ S.IsV v n (T ++ [(label, t)]) L w' F) (fun F hp => (S.seal_ label A len cap t hp hT hl ht hn hc hA hlie).mono ?_)).mono ?_
  · rintro e w' ⟨he, F', h1, h2, h3⟩
    exact ⟨F', ⟨he, h1⟩, h2, h3⟩
  · rintro e w' hs
    obtain ⟨F, ⟨A', B', ⟨he, hp⟩, r⟩, r2⟩ := hs
    exact ⟨he, F, ⟨A', B', hp, r⟩, r2⟩
theorem Turns.vshare (h : Turns F0 w0 w (star (S.IsV v n T L) R)) [hR : Stable R] (who c : Int) (hT : T.length ≤ 1000000) (hL : L.length ≤ 1000000) (ho : OnlyC T L) (hw : I64 who) (hc : I64 c) :
    Calls Try.prog 14 #[v, .int .i64 who, .int .i64 c] w fun e w' => e = .returned (.bool (isC T c)) ∧ Turns F0 w0 w' (star (S.IsV v n T (shareAdd T L who c)) R) := by
  refine (h.call (Q := fun e w' F => e = .returned (.bool (isC T c)) ∧ S.IsV v n T (shareAdd T L who c) w' F) (fun F hp => (S.share who c hp hT hL ho hw hc).mono ?_)).mono ?_
  · rintro e w' ⟨he, F', h1, h2, h3⟩
    exact ⟨F', ⟨he, h1⟩, h2, h3⟩
  · rintro e w' hs
    obtain ⟨F, ⟨A', B', ⟨he, hp⟩, r⟩, r2⟩ := hs
    exact ⟨he, F, ⟨A', B', hp, r⟩, r2⟩
theorem Turns.vshares (h : Turns F0 w0 w (star (S.IsV v n T L) R)) [hR : Stable R] (c : Int) (hT : T.length ≤ 1000000) (hL : L.length ≤ 1000000) (ho : OnlyC T L) (hc : I64 c) :
    Calls Try.prog 13 #[v, .int .i64 c] w fun e w' => ∃ x, e = .returned x ∧ Turns F0 w0 w' (star (RI x (allOf L c)) (star (S.IsV v n T L) R)) := by
  refine (h.call (Q := fun e w' F => ∃ x, e = .returned x ∧ star (RI x (allOf L c)) (S.IsV v n T L) w' F) (fun F hp => (S.shares c hp hT hL ho hc).mono ?_)).mono ?_
  · rintro e w' ⟨x, he, F', h1, h2, h3⟩
    exact ⟨F', ⟨x, he, h1⟩, h2, h3⟩
  · rintro e w' hs
    obtain ⟨F, ⟨A', B', ⟨x, he, hp⟩, r⟩, r2⟩ := hs
    exact ⟨x, he, Turns.assoc ⟨F, ⟨A', B', hp, r⟩, r2⟩⟩
theorem Turns.vopen (h : Turns F0 w0 w (star (S.IsV v n T L) R)) [hR : Stable R] (label c : Int) (hT : T.length ≤ 1000000) (hL : L.length ≤ 1000000) (ho : OnlyC T L) (hl : I64 label) (hc : I64 c) :
    Calls Try.prog 11 #[v, .int .i64 label, .int .i64 c] w fun e w' => ∃ x, e = .returned (.tuple #[x, .bool (openOk n T L label c)]) ∧ Turns F0 w0 w' (star (R8 x (openRow n T L label c)) (star (S.IsV v n T L) R)) := by
  refine (h.call (Q := fun e w' F => ∃ x, e = .returned (.tuple #[x, .bool (openOk n T L label c)]) ∧ star (R8 x (openRow n T L label c)) (S.IsV v n T L) w' F) (fun F hp => (S.open_ label c hp hT hL ho hl hc).mono ?_)).mono ?_
  · rintro e w' ⟨x, he, F', h1, h2, h3⟩
    exact ⟨F', ⟨x, he, h1⟩, h2, h3⟩
  · rintro e w' hs
    obtain ⟨F, ⟨A', B', ⟨x, he, hp⟩, r⟩, r2⟩ := hs
    exact ⟨x, he, Turns.assoc ⟨F, ⟨A', B', hp, r⟩, r2⟩⟩
theorem Turns.vshared (h : Turns F0 w0 w (star (S.IsV v n T L) R)) [hR : Stable R] (who c : Int) (hT : T.length ≤ 1000000) (hL : L.length ≤ 1000000) (ho : OnlyC T L) (hw : I64 who) (hc : I64 c) :
    Calls Try.prog 15 #[v, .int .i64 who, .int .i64 c] w fun e w' => e = .returned (.bool (decide ((who, c) ∈ L))) ∧ Turns F0 w0 w' (star (S.IsV v n T L) R) ∧ Below w.heap.size w w' := by
  have h' := h
  obtain ⟨F, ⟨A, B, hp, _⟩, _⟩ := h
  exact (S.shared who c hp hT hL ho hw hc).mono fun e w' ⟨he, hb⟩ => ⟨he, h'.more hb, hb⟩
theorem Turns.vlen (h : Turns F0 w0 w (star (S.IsV v n T L) R)) [hR : Stable R] (hT : T.length ≤ 1000000) :
    Calls Try.prog 16 #[v] w fun e w' => e = .returned (.int .i64 T.length) ∧ Turns F0 w0 w' (star (S.IsV v n T L) R) ∧ Below w.heap.size w w' := by
  have h' := h
  obtain ⟨F, ⟨A, B, hp, _⟩, _⟩ := h
  exact (S.len hp hT).mono fun e w' ⟨he, hb⟩ => ⟨he, h'.more hb, hb⟩
end
end Go.Proofs.Ytdhnpbfoeohhmaa
