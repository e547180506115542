/- What a row of parts is in bytes, and how a reader goes through these bytes, whole or cut short. Conditions: as each says. -/
import Derived.Test.YtcnnfmooigfeiaaWireLong
namespace Go.Proofs.Ytcnnfmooigfeiaa
open Go.RowKit Go.WideShapes

/-- The bytes of a part. -/
def enc (p : PartV) : List UInt8 := if p.kind % 4 = 0 ∨ p.kind % 4 = 1 then num8 p.n else text8 p.t
/-- The bytes of a row of parts. -/
def encs : List PartV → List UInt8
  | [] => []
  | p :: r => enc p ++ encs r
theorem encs_snoc (l : List PartV) (p : PartV) : encs (l ++ [p]) = encs l ++ enc p := by
  induction l with
  | nil => simp [encs]
  | cons a r ih => simp [encs, ih]
theorem enc_num {p : PartV} (h : p.kind % 4 = 0 ∨ p.kind % 4 = 1) : enc p = num8 p.n := by simp only [enc, if_pos h]
theorem enc_text {p : PartV} (h : ¬ (p.kind % 4 = 0 ∨ p.kind % 4 = 1)) : enc p = text8 p.t := by simp only [enc, if_neg h]
theorem text8_length (t : List UInt8) : (text8 t).length = 8 + t.length := by unfold text8; rw [List.length_append, num8_length]
theorem enc_length (p : PartV) : 8 ≤ (enc p).length := by
  unfold enc; split
  · exact Nat.le_refl _
  · rw [text8_length]; omega

/-- A row that is cut short. -/
def Short (r E : List UInt8) : Prop := r.length < E.length ∧ r = E.take r.length
theorem short_num {n : Int} (hn : Word n) {r E : List UInt8} (h : Short r (num8 n ++ E)) : nextNum (some r) = (0, none) ∨ ∃ r', nextNum (some r) = (n, some r') ∧ Short r' E := by
  obtain ⟨h1, h2⟩ := h
  rw [List.length_append, num8_length] at h1
  by_cases h8 : r.length < 8
  · exact Or.inl (by simp only [nextNum, if_pos h8])
  · refine Or.inr ⟨E.take (r.length - 8), ?_, by rw [List.length_take]; omega, by rw [List.length_take]; congr 1; omega⟩
    have e : r = num8 n ++ E.take (r.length - 8) := by
      conv => lhs; rw [h2]
      rw [List.take_append, num8_length, List.take_of_length_le (by rw [num8_length]; omega)]
    have := nextNum_num8 n hn (E.take (r.length - 8))
    rw [← e] at this
    exact this
theorem short_text {t r E : List UInt8} (ht : t.length < 18446744073709551616) (h : Short r (text8 t ++ E)) : nextText (some r) = ([], none) ∨ ∃ r', nextText (some r) = (t, some r') ∧ Short r' E := by
  have hw : Word (t.length : Int) := ⟨by omega, by omega⟩
  have h' : Short r (num8 t.length ++ (t ++ E)) := by unfold text8 at h; rwa [List.append_assoc] at h
  rcases short_num hw h' with h0 | ⟨r1, h1, h2, h3⟩
  · exact Or.inl (by simp only [nextText, h0])
  · rw [List.length_append] at h2
    by_cases hl : r1.length < t.length
    · refine Or.inl ?_
      simp only [nextText, h1]
      rw [if_pos (by omega)]
    · refine Or.inr ⟨E.take (r1.length - t.length), ?_, by rw [List.length_take]; omega, by rw [List.length_take]; congr 1; omega⟩
      have e : r1 = t ++ E.take (r1.length - t.length) := by
        conv => lhs; rw [h3]
        rw [List.take_append, List.take_of_length_le (by omega)]
      simp only [nextText, h1]
      rw [if_neg (by omega), Int.toNat_natCast]
      rw [e]
      simp

/-- What stands between the law's reader and what it was to read: whole with a tail, or cut short. -/
def BackInv (full : Bool) (tail E : List UInt8) (same : Bool) (s : Left8) : Prop :=
  match full with
  | true => same = true ∧ s = some (E ++ tail)
  | false => s = none ∨ (same = true ∧ ∃ r, s = some r ∧ Short r E)
theorem back_stay {full : Bool} {tail : List UInt8} {p : PartV} {E : List UInt8} {s : Left8} (h : BackInv full tail (enc p ++ E) false s) : BackInv full tail E false s := by
  cases full
  · rcases h with h | ⟨h, _⟩
    · exact Or.inl h
    · cases h
  · obtain ⟨h, _⟩ := h; cases h
theorem back_num {full : Bool} {tail : List UInt8} {p : PartV} {E : List UInt8} {s : Left8} (hk : p.kind % 4 = 0 ∨ p.kind % 4 = 1) (hn : Word p.n) (h : BackInv full tail (enc p ++ E) true s) :
    ∃ val s', nextNum s = (val, s') ∧ Word val ∧ BackInv full tail E (decide (val = p.n)) s' := by
  rw [enc_num hk] at h
  cases full
  · rcases h with rfl | ⟨_, r, rfl, hr⟩
    · exact ⟨0, none, rfl, ⟨by decide, by decide⟩, Or.inl rfl⟩
    · rcases short_num hn hr with h0 | ⟨r', h1, h2⟩
      · exact ⟨0, none, h0, ⟨by decide, by decide⟩, Or.inl rfl⟩
      · exact ⟨p.n, some r', h1, hn, Or.inr ⟨by simp, r', rfl, h2⟩⟩
  · obtain ⟨_, rfl⟩ := h
    refine ⟨p.n, some (E ++ tail), by rw [List.append_assoc]; exact nextNum_num8 p.n hn _, hn, by simp, rfl⟩
theorem back_text {full : Bool} {tail : List UInt8} {p : PartV} {E : List UInt8} {s : Left8} (hk : ¬ (p.kind % 4 = 0 ∨ p.kind % 4 = 1)) (ht : p.t.length < 18446744073709551616) (h : BackInv full tail (enc p ++ E) true s) :
    ∃ t' s', nextText s = (t', s') ∧ BackInv full tail E (decide (t' = p.t)) s' := by
  rw [enc_text hk] at h
  cases full
  · rcases h with rfl | ⟨_, r, rfl, hr⟩
    · exact ⟨[], none, rfl, Or.inl rfl⟩
    · rcases short_text ht hr with h0 | ⟨r', h1, h2⟩
      · exact ⟨[], none, h0, Or.inl rfl⟩
      · exact ⟨p.t, some r', h1, Or.inr ⟨by simp, r', rfl, h2⟩⟩
  · obtain ⟨_, rfl⟩ := h
    refine ⟨p.t, some (E ++ tail), by rw [List.append_assoc]; exact nextText_text8 p.t _ ht, by simp, rfl⟩
theorem back_end {full : Bool} {tail : List UInt8} {same : Bool} {s : Left8} (h : BackInv full tail [] same s) : (full = true ∧ same = true ∧ s = some tail) ∨ (full = false ∧ s = none) := by
  cases full
  · rcases h with rfl | ⟨_, r, _, hr, _⟩
    · exact Or.inr ⟨rfl, rfl⟩
    · simp at hr
  · obtain ⟨h1, h2⟩ := h
    exact Or.inl ⟨rfl, h1, by simpa using h2⟩
theorem asI_inj {a b : Int} (ha : Word a) (hb : Word b) : decide (asI a = asI b) = decide (a = b) := by
  have h : asI a = asI b ↔ a = b := by
    obtain ⟨_, _⟩ := ha; obtain ⟨_, _⟩ := hb
    unfold asI
    constructor
    · intro h; omega
    · rintro rfl; rfl
  by_cases e : a = b
  · rw [decide_eq_true e, decide_eq_true (h.2 e)]
  · rw [decide_eq_false e, decide_eq_false (fun g => e (h.1 g))]
end Go.Proofs.Ytcnnfmooigfeiaa
