/- What package wire's calls do, as plain facts: a number's eight bytes, what a reader reads; and what is asked of the calls (the statements of their contracts, over any layout in memory). Conditions: as each says. -/
import Derived.Test.YtcnnfmooigfeiaaFoot
import Derived.Lib.Hide
namespace Go.Proofs.Ytcnnfmooigfeiaa
open Go.RowKit

/-- A word of 64 bits. -/
def Word (x : Int) : Prop := 0 ≤ x ∧ x < 18446744073709551616
/-- Byte number i of a number, the lowest first. -/
def byteAt (n : Int) (i : Nat) : UInt8 := UInt8.ofNat (n / 256 ^ i % 256).toNat
/-- The eight bytes of a number, the highest first. -/
def num8 (n : Int) : List UInt8 := [byteAt n 7, byteAt n 6, byteAt n 5, byteAt n 4, byteAt n 3, byteAt n 2, byteAt n 1, byteAt n 0]
theorem num8_length (n : Int) : (num8 n).length = 8 := rfl
/-- The number that bytes are. -/
def get8 (l : List UInt8) : Int := l.foldl (fun a b => a * 256 + (b.toNat : Int)) 0
theorem byteAt_toNat (n : Int) (i : Nat) : ((byteAt n i).toNat : Int) = n / 256 ^ i % 256 := by
  have h0 : 0 ≤ n / 256 ^ i % 256 := Int.emod_nonneg _ (by decide)
  have h1 : n / 256 ^ i % 256 < 256 := Int.emod_lt_of_pos _ (by decide)
  unfold byteAt
  rw [UInt8.toNat_ofNat']
  omega
theorem get8_num8 (n : Int) (h : Word n) : get8 (num8 n) = n := by
  obtain ⟨h0, h1⟩ := h
  simp only [get8, num8, List.foldl_cons, List.foldl_nil, byteAt_toNat]
  simp only [show (256 : Int) ^ 7 = 72057594037927936 by decide, show (256 : Int) ^ 6 = 281474976710656 by decide, show (256 : Int) ^ 5 = 1099511627776 by decide, show (256 : Int) ^ 4 = 4294967296 by decide,
    show (256 : Int) ^ 3 = 16777216 by decide, show (256 : Int) ^ 2 = 65536 by decide, show (256 : Int) ^ 1 = 256 by decide, show (256 : Int) ^ 0 = 1 by decide]
  omega
theorem num8_inj {n m : Int} (hn : Word n) (hm : Word m) (h : num8 n = num8 m) : n = m := by
  rw [← get8_num8 n hn, ← get8_num8 m hm, h]
theorem get8_word (l : List UInt8) (h : l.length = 8) : Word (get8 l) := by
  match l, h with
  | [a, b, c, d, e, f, g, i], _ =>
    have ha := a.toNat_lt; have hb := b.toNat_lt; have hc := c.toNat_lt; have hd := d.toNat_lt
    have he := e.toNat_lt; have hf := f.toNat_lt; have hg := g.toNat_lt; have hi := i.toNat_lt
    simp only [get8, List.foldl_cons, List.foldl_nil, Word]
    constructor <;> omega
/-- An int as a number of 64 bits, and back. -/
def asU (n : Int) : Int := n % 18446744073709551616
def asI (n : Int) : Int := (n + 9223372036854775808) % 18446744073709551616 - 9223372036854775808
theorem asU_word (n : Int) : Word (asU n) := by unfold asU Word; omega
theorem asI_asU {n : Int} (h0 : -9223372036854775808 ≤ n) (h1 : n < 9223372036854775808) : asI (asU n) = n := by unfold asI asU; omega
theorem asU_asI {n : Int} (h : Word n) : asU (asI n) = n := by unfold asI asU; obtain ⟨_, _⟩ := h; omega
/-- A text's bytes, with its length. -/
def text8 (t : List UInt8) : List UInt8 := num8 t.length ++ t

/-- What is left to a reader; none: it is bad. -/
abbrev Left8 := Option (List UInt8)
/-- The next number, and what is left. -/
def nextNum : Left8 → Int × Left8
  | none => (0, none)
  | some l => if l.length < 8 then (0, none) else (get8 (l.take 8), some (l.drop 8))
/-- The next text, and what is left. -/
def nextText (s : Left8) : List UInt8 × Left8 :=
  match (nextNum s).2 with
  | none => ([], none)
  | some r => if (r.length : Int) < (nextNum s).1 then ([], none) else (r.take (nextNum s).1.toNat, some (r.drop (nextNum s).1.toNat))
theorem nextNum_num8 (n : Int) (h : Word n) (r : List UInt8) : nextNum (some (num8 n ++ r)) = (n, some r) := by
  have e : ¬ (num8 n ++ r).length < 8 := by rw [List.length_append, num8_length]; omega
  simp only [nextNum, if_neg e]
  rw [List.take_left' (num8_length n), List.drop_left' (num8_length n), get8_num8 n h]
theorem nextNum_word (s : Left8) : Word (nextNum s).1 := by
  rcases s with _ | l
  · exact ⟨by decide, by decide⟩
  · simp only [nextNum]
    split
    · exact ⟨by decide, by decide⟩
    · exact get8_word _ (by rw [List.length_take]; omega)
theorem nextText_text8 (t r : List UInt8) (h : t.length < 18446744073709551616) : nextText (some (text8 t ++ r)) = (t, some r) := by
  have e : nextNum (some (text8 t ++ r)) = ((t.length : Int), some (t ++ r)) := by
    unfold text8; rw [List.append_assoc]; exact nextNum_num8 _ ⟨by omega, by omega⟩ _
  have e2 : ¬ (((t ++ r).length : Nat) : Int) < (t.length : Int) := by rw [List.length_append]; omega
  simp only [nextText, e, if_neg e2, Int.toNat_natCast]
  rw [List.take_left' rfl, List.drop_left' rfl]

/-- New bytes: a row of the call's own. -/
def Fresh8 (w w' : World) (v : Value) (l : List UInt8) : Prop := w'.ownsRow w.heap.size 5 1 v l.length (cells8 l) ∧ Below w.heap.size w w'

/-- What is asked of package wire's calls. IsW w v l F: v points to a writer that has the bytes l, and lies in the blocks F. IsR w v s F: v points to a reader to which s is left. -/
structure WireApi where
  IsW : World → Value → List UInt8 → (Nat → Prop) → Prop
  ptrW : ∀ {w v l F}, IsW w v l F → ∃ a, v = .pointer (some a)
  ltW : ∀ {w v l F}, IsW w v l F → ∀ k, F k → k < w.heap.size
  keepW : ∀ {w w' v l F G}, IsW w v l F → Chg G w w' → (∀ k, F k → ¬ G k) → IsW w' v l F
  new : ∀ w, Calls Try.prog 9 #[] w fun e w' => ∃ v F, e = .returned v ∧ IsW w' v [] F ∧ (∀ k, F k → w.heap.size ≤ k) ∧ Below w.heap.size w w'
  num : ∀ {w v l F} (n : Int), IsW w v l F → Word n → l.length ≤ 1073741824 → Calls Try.prog 12 #[v, .int .u64 n] w fun e w' =>
    ∃ F', e = .returned (.tuple #[]) ∧ IsW w' v (l ++ num8 n) F' ∧ Chg F w w' ∧ (∀ k, F' k → F k ∨ w.heap.size ≤ k)
  int : ∀ {w v l F} (n : Int), IsW w v l F → l.length ≤ 1073741824 → Calls Try.prog 10 #[v, .int .i64 n] w fun e w' =>
    ∃ F', e = .returned (.tuple #[]) ∧ IsW w' v (l ++ num8 (asU n)) F' ∧ Chg F w w' ∧ (∀ k, F' k → F k ∨ w.heap.size ≤ k)
  text : ∀ {w v l F} (A : Option Addr) (n cap : Nat) (t : List UInt8), IsW w v l F → l.length ≤ 1073741824 → t.length = n → n ≤ 1073741824 → n ≤ cap → (A = none → cap = 0) → Lie8 w F A t →
    Calls Try.prog 11 #[v, .slice A n cap] w fun e w' =>
    ∃ F', e = .returned (.tuple #[]) ∧ IsW w' v (l ++ text8 t) F' ∧ Chg F w w' ∧ (∀ k, F' k → F k ∨ w.heap.size ≤ k)
  bytes : ∀ {w v l F}, IsW w v l F → l.length ≤ 2147483648 → Calls Try.prog 13 #[v] w fun e w' => ∃ x, e = .returned x ∧ Fresh8 w w' x l
  IsR : World → Value → Left8 → (Nat → Prop) → Prop
  ptrR : ∀ {w v s F}, IsR w v s F → ∃ a, v = .pointer (some a)
  ltR : ∀ {w v s F}, IsR w v s F → ∀ k, F k → k < w.heap.size
  keepR : ∀ {w w' v s F G}, IsR w v s F → Chg G w w' → (∀ k, F k → ¬ G k) → IsR w' v s F
  read : ∀ {w F} (A : Option Addr) (n cap : Nat) (l : List UInt8), l.length = n → n ≤ 1073741824 → n ≤ cap → (A = none → cap = 0) → Lie8 w F A l →
    Calls Try.prog 16 #[.slice A n cap] w fun e w' => ∃ v F, e = .returned v ∧ IsR w' v (some l) F ∧ (∀ k, F k → w.heap.size ≤ k) ∧ Below w.heap.size w w'
  rnum : ∀ {w v s F}, IsR w v s F → Calls Try.prog 20 #[v] w fun e w' =>
    ∃ F', e = .returned (.int .u64 (nextNum s).1) ∧ IsR w' v (nextNum s).2 F' ∧ Chg F w w' ∧ (∀ k, F' k → F k ∨ w.heap.size ≤ k)
  rint : ∀ {w v s F}, IsR w v s F → Calls Try.prog 21 #[v] w fun e w' =>
    ∃ F', e = .returned (.int .i64 (asI (nextNum s).1)) ∧ IsR w' v (nextNum s).2 F' ∧ Chg F w w' ∧ (∀ k, F' k → F k ∨ w.heap.size ≤ k)
  rtext : ∀ {w v s F}, IsR w v s F → Calls Try.prog 17 #[v] w fun e w' =>
    ∃ x F', e = .returned x ∧ w'.ownsRow w.heap.size 5 1 x (nextText s).1.length (cells8 (nextText s).1) ∧ IsR w' v (nextText s).2 F' ∧ Chg F w w' ∧ (∀ k, F' k → F k ∨ w.heap.size ≤ k) ∧ (∀ k, x.ownBlock = some k → ¬ F' k)
  done : ∀ {w v s F}, IsR w v s F → Calls Try.prog 18 #[v] w fun e w' => e = .returned (.bool (decide (s = some []))) ∧ Below w.heap.size w w'
end Go.Proofs.Ytcnnfmooigfeiaa
