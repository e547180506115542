/- The accounts as the landed code lays them: a block with a row of amounts for each asset; and package acct's inner calls at and isAsset. Conditions: at most a thousand clients, each amount a word of 64 bits. -/
import Derived.Test.YtnicfhafepiknaaAcctApi
import Derived.Test.YtnicfhafepiknaaBlk
import Derived.Test.YtnicfhafepiknaaSum
import Derived.Deep.RegionLaw
import Derived.Deep.RegionWith
import Derived.Deep.RegionHeld3
import Derived.Deep.CutBlock
import Derived.Deep.DeepCutAuto
import Derived.StillTailTactics
import Derived.WalkSmall
import Derived.Laws.MakeOwn
namespace Go.Proofs.Ytnicfhafepiknaa
open Go.RowKit Go.WideShapes

/-! ### Rows of numbers -/
def cells64 (l : List Int) : List Value := l.map fun n => .int .u64 n
theorem cells64_length (l : List Int) : (cells64 l).length = l.length := by simp [cells64]
theorem cells64_at {l : List Int} {j : Nat} (h : j < l.length) : (cells64 l)[j]'(by rw [cells64_length]; exact h) = .int .u64 l[j] := by simp [cells64]
theorem cells64_set (l : List Int) (j : Nat) (n : Int) : (cells64 l).set j (.int .u64 n) = cells64 (l.set j n) := by simp [cells64, List.map_set]
theorem cells64_nil {l : List Int} : cells64 l = [] ↔ l = [] := by simp [cells64]
theorem cells64_one (l : List Int) : ∀ u ∈ cells64 l, u.oneCell' = true := by
  intro u hu
  simp only [cells64, List.mem_map] at hu
  obtain ⟨x, _, rfl⟩ := hu
  rfl
/-- x is a row of n numbers l. -/
abbrev RU (x : Value) (n : Nat) (l : List Int) : HP := RV x n (cells64 l)

/-- The accounts lie at b. -/
def AccB (b : Nat) (s0 s1 : Value) (X : Accts) : HP := star (Blk b #[s0, s1] 62) (star (RU s0 X.length (X.map Prod.fst)) (RU s1 X.length (X.map Prod.snd)))
instance AccB.stable (b : Nat) (s0 s1 : Value) (X : Accts) : Stable (AccB b s0 s1 X) := inferInstanceAs (Stable (star _ _))
def IsAcct (v : Value) (X : Accts) : HP := fun w F => ∃ b s0 s1, (v = .pointer (some ⟨b, 0, none⟩) ∧ X.length ≤ 1000 ∧ GoodA X) ∧ AccB b s0 s1 X w F
instance IsAcct.stable (v : Value) (X : Accts) : Stable (IsAcct v X) where
  lt := fun ⟨_, _, _, _, h⟩ => Stable.lt h
  keep := fun ⟨b, s0, s1, h0, h⟩ hc hd => ⟨b, s0, s1, h0, Stable.keep h hc hd⟩

section
variable {F0 : Nat → Prop} {w0 w : World} {b : Nat} {s0 s1 : Value} {X : Accts} {R : HP}
/-- What is read of the block, and the rows' shapes. -/
theorem AccB.facts (h : Turns F0 w0 w (AccB b s0 s1 X)) : ∃ A0 c0 A1 c1, s0 = .slice A0 X.length c0 ∧ s1 = .slice A1 X.length c1 ∧ b < w.heap.size ∧
    w.cell? ⟨b, 0, none⟩ = some (.slice A0 X.length c0) ∧ w.cell? ⟨b, 1, none⟩ = some (.slice A1 X.length c1) := by
  obtain ⟨_, h2, h3, _⟩ := Turns.blk h
  obtain ⟨A0, c0, rfl, _⟩ := (h.swap).rv
  obtain ⟨A1, c1, rfl, _⟩ := (h.last.swap.comm.assoc.comm.snd).pad.rv
  exact ⟨A0, c0, A1, c1, rfl, rfl, h2, h3 0 _ rfl, h3 1 _ rfl⟩
theorem amt_fst (X : Accts) {c : Int} (hc : 0 ≤ c ∧ c < X.length) : ∀ (h : c.toNat < (cells64 (X.map Prod.fst)).length), (cells64 (X.map Prod.fst))[c.toNat] = .int .u64 (amt X c 0) := by
  intro h
  rw [cells64_at (by rw [cells64_length] at h; exact h), List.getElem_map]
  unfold amt side
  rw [if_pos rfl, List.getD_eq_getElem?_getD, List.getElem?_eq_getElem (by omega)]
  rfl
theorem amt_snd (X : Accts) {c : Int} (hc : 0 ≤ c ∧ c < X.length) : ∀ (h : c.toNat < (cells64 (X.map Prod.snd)).length), (cells64 (X.map Prod.snd))[c.toNat] = .int .u64 (amt X c 1) := by
  intro h
  rw [cells64_at (by rw [cells64_length] at h; exact h), List.getElem_map]
  unfold amt side
  rw [if_neg (by decide), List.getD_eq_getElem?_getD, List.getElem?_eq_getElem (by omega)]
  rfl
theorem set_fst (X : Accts) (c v : Int) (hc : 0 ≤ c ∧ c < X.length) : ((setA X c 0 v).map Prod.fst = (X.map Prod.fst).set c.toNat v) ∧ (setA X c 0 v).map Prod.snd = X.map Prod.snd := by
  unfold setA withSide
  rw [if_pos rfl, List.map_set, List.map_set]
  refine ⟨rfl, ?_⟩
  apply List.ext_getElem
  · simp
  · intro i h1 h2
    by_cases e : i = c.toNat
    · subst e
      simp only [List.getElem_set_self, List.getElem_map, List.getD_eq_getElem?_getD]
      rw [List.getElem?_eq_getElem (by omega)]; rfl
    · rw [List.getElem_set_ne (by omega)]
theorem set_snd (X : Accts) (c v : Int) (hc : 0 ≤ c ∧ c < X.length) : ((setA X c 1 v).map Prod.snd = (X.map Prod.snd).set c.toNat v) ∧ (setA X c 1 v).map Prod.fst = X.map Prod.fst := by
  unfold setA withSide
  rw [if_neg (by decide), List.map_set, List.map_set]
  refine ⟨rfl, ?_⟩
  apply List.ext_getElem
  · simp
  · intro i h1 h2
    by_cases e : i = c.toNat
    · subst e
      simp only [List.getElem_set_self, List.getElem_map, List.getD_eq_getElem?_getD]
      rw [List.getElem?_eq_getElem (by omega)]; rfl
    · rw [List.getElem_set_ne (by omega)]
/-- The place of an amount: what is read there, and what stands behind a write. -/
theorem AccB.place (h : Turns F0 w0 w (AccB b s0 s1 X)) {c s : Int} (he : okE X c s = 0) : ∃ g off cap, (if s = 0 then s0 else s1) = .slice (some ⟨g, off, none⟩) X.length cap ∧ g < w.heap.size ∧
    w.cell? ⟨g, off + c.toNat, none⟩ = some (.int .u64 (amt X c s)) ∧ w.frozen? ⟨g, off + c.toNat, none⟩ = false ∧
    ∀ v, Turns F0 w0 (w.setCell ⟨g, off + c.toNat, none⟩ (.int .u64 v)) (AccB b s0 s1 (setA X c s v)) := by
  obtain ⟨hc, hs⟩ := okE_zero.1 he
  have hlt : c.toNat < X.length := by omega
  rcases hs with rfl | rfl
  · have h1 := h.swap
    obtain ⟨A, cap, rfl, _, _, hr⟩ := h1.rv
    rcases hr with hr | ⟨g, off, rfl, hg, hcl⟩
    · have := congrArg List.length hr; simp [cells64] at this; subst this; simp at hlt
    · have hl : c.toNat < (cells64 (X.map Prod.fst)).length := by rw [cells64_length, List.length_map]; exact hlt
      obtain ⟨k1, k2⟩ := hcl c.toNat hl
      refine ⟨g, off, cap, by rw [if_pos rfl], hg, by rw [k1, amt_fst X hc], k2, fun v => ?_⟩
      have h2 := (h1.rv_set c.toNat hl (.int .u64 v)).swap
      rw [cells64_set, ← (set_fst X c v hc).1, ← (set_fst X c v hc).2] at h2
      unfold AccB
      rw [setA_length]
      exact h2
  · have h1 := h.last.swap.comm.assoc.comm
    have h1 : Turns F0 w0 w (star (RU s1 X.length (X.map Prod.snd)) (star (Blk b #[s0, s1] 62) (RU s0 X.length (X.map Prod.fst)))) := h.assoc'.comm
    obtain ⟨A, cap, rfl, _, _, hr⟩ := h1.rv
    rcases hr with hr | ⟨g, off, rfl, hg, hcl⟩
    · have := congrArg List.length hr; simp [cells64] at this; subst this; simp at hlt
    · have hl : c.toNat < (cells64 (X.map Prod.snd)).length := by rw [cells64_length, List.length_map]; exact hlt
      obtain ⟨k1, k2⟩ := hcl c.toNat hl
      refine ⟨g, off, cap, by rw [if_neg (by decide)], hg, by rw [k1, amt_snd X hc], k2, fun v => ?_⟩
      have h2 := (h1.rv_set c.toNat hl (.int .u64 v)).comm.assoc
      rw [cells64_set, ← (set_snd X c v hc).1, ← (set_snd X c v hc).2] at h2
      unfold AccB
      rw [setA_length]
      exact h2
end

/-! ### isAsset, at -/
set_option maxRecDepth 100000 in
theorem isasset_any (s : Int) (w : World) : Calls Try.prog 37 #[.int .i64 s] w fun e w' => e = .returned (.bool (decide (s = 0 ∨ s = 1))) ∧ w' = w := by
  rcases Int.lt_or_le s 0 with hlt | hge
  · have b0 : decide (s = 0 ∨ s = 1) = false := decide_eq_false (by omega)
    have b1 : decide (s ≥ 0) = false := decide_eq_false (by omega)
    have b2 : decide (0 ≤ s) = false := decide_eq_false (by omega)
    rw [b0]; clear b0 hlt
    go_enter Try.func37, Try.ntmps37
    go_wp2_with fail
    go_ret
    exact ⟨rfl, rfl⟩
  · have b0 : decide (s = 0 ∨ s = 1) = decide (s < 2) := decide_eq_decide.2 (by omega)
    rw [b0]; clear b0
    go_enter Try.func37, Try.ntmps37
    go_wp2_with fail
    go_ret
    exact ⟨rfl, rfl⟩

section
variable {w : World} {b n c0 c1 : Nat} {A0 A1 : Option Addr}
set_option maxRecDepth 100000 in
set_option maxHeartbeats 4000000 in
/-- A client that is none. -/
theorem at_noclient (c s : Int) (h0 : w.cell? ⟨b, 0, none⟩ = some (.slice A0 n c0)) (hno : ¬ (0 ≤ c ∧ c < n)) :
    Calls Try.prog 34 #[.pointer (some ⟨b, 0, none⟩), .int .i64 c, .int .i64 s] w fun e w' => e = .returned (.tuple #[.pointer none, .int .i64 2]) ∧ w' = w := by
  rcases Int.lt_or_le c 0 with hlt | hge
  · have b1 : decide (c < 0) = true := decide_eq_true hlt
    clear hlt hno
    go_enter Try.func34, Try.ntmps34
    go_wp2_with fail
    go_ret2
    exact ⟨rfl, rfl⟩
  · have b1 : decide (c < 0) = false := decide_eq_false (by omega)
    have b2 : decide (c ≥ (n : Int)) = true := decide_eq_true (by omega)
    have b3 : decide ((n : Int) ≤ c) = true := decide_eq_true (by omega)
    clear hge hno
    go_enter Try.func34, Try.ntmps34
    go_wp2_with fail
    go_ret2
    exact ⟨rfl, rfl⟩
set_option maxRecDepth 100000 in
set_option maxHeartbeats 4000000 in
/-- An asset that is none. -/
theorem at_noasset (c s : Int) (h0 : w.cell? ⟨b, 0, none⟩ = some (.slice A0 n c0)) (hc : 0 ≤ c ∧ c < n) (hs : ¬ (s = 0 ∨ s = 1)) :
    Calls Try.prog 34 #[.pointer (some ⟨b, 0, none⟩), .int .i64 c, .int .i64 s] w fun e w' => e = .returned (.tuple #[.pointer none, .int .i64 3]) ∧ w' = w := by
  have b1 : decide (c < 0) = false := decide_eq_false (by omega)
  have b2 : decide (c ≥ (n : Int)) = false := decide_eq_false (by omega)
  have b3 : decide ((n : Int) ≤ c) = false := decide_eq_false (by omega)
  have K := isasset_any s w
  rw [decide_eq_false hs] at K
  have K := Lib.hid K
  clear hc hs
  go_enter Try.func34, Try.ntmps34
  go_wp2_with fail
  refine K.out.mono ?_
  rintro e w2 ⟨rfl, rfl⟩
  go_wp2_with fail
  go_ret2
  exact ⟨rfl, rfl⟩
set_option maxRecDepth 100000 in
set_option maxHeartbeats 4000000 in
/-- The place of an amount of the first asset. -/
theorem at_base {g off : Nat} (c : Int) (h0 : w.cell? ⟨b, 0, none⟩ = some (.slice (some ⟨g, off, none⟩) n c0)) (hc : 0 ≤ c ∧ c < n) :
    Calls Try.prog 34 #[.pointer (some ⟨b, 0, none⟩), .int .i64 c, .int .i64 0] w fun e w' => e = .returned (.tuple #[.pointer (some ⟨g, off + c.toNat, none⟩), .int .i64 0]) ∧ w' = w := by
  have b1 : decide (c < 0) = false := decide_eq_false (by omega)
  have b2 : decide (c ≥ (n : Int)) = false := decide_eq_false (by omega)
  have b3 : decide ((n : Int) ≤ c) = false := decide_eq_false (by omega)
  obtain ⟨hc0, hc1⟩ := hc
  have K := Lib.hid (isasset_any 0 w)
  go_enter Try.func34, Try.ntmps34
  go_wp2_with fail
  refine K.out.mono ?_
  rintro e w2 ⟨rfl, rfl⟩
  go_wp2_with fail
  go_ret2
  exact ⟨by simp, rfl⟩
set_option maxRecDepth 100000 in
set_option maxHeartbeats 4000000 in
/-- The place of an amount of the second asset. -/
theorem at_quote {g off : Nat} (c : Int) (h0 : w.cell? ⟨b, 0, none⟩ = some (.slice A0 n c0)) (h1 : w.cell? ⟨b, 1, none⟩ = some (.slice (some ⟨g, off, none⟩) n c1)) (hc : 0 ≤ c ∧ c < n) :
    Calls Try.prog 34 #[.pointer (some ⟨b, 0, none⟩), .int .i64 c, .int .i64 1] w fun e w' => e = .returned (.tuple #[.pointer (some ⟨g, off + c.toNat, none⟩), .int .i64 0]) ∧ w' = w := by
  have b1 : decide (c < 0) = false := decide_eq_false (by omega)
  have b2 : decide (c ≥ (n : Int)) = false := decide_eq_false (by omega)
  have b3 : decide ((n : Int) ≤ c) = false := decide_eq_false (by omega)
  obtain ⟨hc0, hc1⟩ := hc
  have K := Lib.hid (isasset_any 1 w)
  go_enter Try.func34, Try.ntmps34
  go_wp2_with fail
  refine K.out.mono ?_
  rintro e w2 ⟨rfl, rfl⟩
  go_wp2_with fail
  go_ret2
  exact ⟨by simp, rfl⟩
end
end Go.Proofs.Ytnicfhafepiknaa
