/- TermLong answers true, and makes only new memory. Conditions: term's calls are as their contracts say; the bytes lie in memory. -/
import Derived.Test.YtlodklmcamanpaaTermRef
import Derived.Deep.CutBlock
import Derived.Deep.DeepCutAuto
import Derived.Deep.RegionWith
import Derived.Laws.Bits64b
namespace Go.Proofs.Ytlodklmcamanpaa
open Go.RowKit Go.WideShapes

theorem long_more (T : TermApi) (a : Option Addr) (n cap : Nat) (at_ : Int) (by_ : Int) (hn : 300 < n) (hn2 : n ≤ 9223372036854775807) (w : World) :
    Calls Try.prog 4 #[.slice a n cap, .int .i64 at_, .int .u8 by_] w fun e w' => e = .returned (.bool true) ∧ Below w.heap.size w w' := by
  go_enter Try.func4, Try.ntmps4
  go_wp2_with (go_at_call 10; refine (awake_any T _).mono ?_; rintro e w2 ⟨rfl, hb2⟩)
  go_ret
  exact ⟨rfl, hb2⟩

/-! ### What the four rows are -/
theorem lng_1 (t : List UInt8) : digOf [] t = 1 ∧ digAdd [] t = [t] := ⟨by simp [digOf], by simp [digAdd]⟩
theorem lng_ne1 (t : List UInt8) (c : UInt8) : t ++ [c] ≠ t := by
  intro h
  have := congrArg List.length h
  simp at this
theorem lng_ne2 (t : List UInt8) (c : UInt8) : c :: t ≠ t := by
  intro h
  have := congrArg List.length h
  simp at this
theorem lng_2 (t : List UInt8) (c : UInt8) : digOf [t] (t ++ [c]) = 2 ∧ digAdd [t] (t ++ [c]) = [t, t ++ [c]] := by
  have h : t ++ [c] ∉ [t] := by simp
  exact ⟨by rw [digOf_new h]; rfl, by rw [digAdd_new h]; rfl⟩
/-- The third row: new, or the second one. -/
theorem lng_3 (t : List UInt8) (c : UInt8) : (c :: t = t ++ [c] ∧ digOf [t, t ++ [c]] (c :: t) = 2 ∧ digAdd [t, t ++ [c]] (c :: t) = [t, t ++ [c]]) ∨ (c :: t ≠ t ++ [c] ∧ digOf [t, t ++ [c]] (c :: t) = 3 ∧ digAdd [t, t ++ [c]] (c :: t) = [t, t ++ [c], c :: t]) := by
  by_cases h : c :: t = t ++ [c]
  · left
    refine ⟨h, ?_, ?_⟩
    · rw [h, digOf, List.idxOf_cons]
      have e : (t == t ++ [c]) = false := by rw [beq_eq_false_iff_ne]; exact fun h => lng_ne1 t c h.symm
      simp [e]
    · rw [digAdd_old]; rw [h]; simp
  · right
    have hno : c :: t ∉ [t, t ++ [c]] := by
      simp only [List.mem_cons, List.not_mem_nil, or_false, not_or]
      exact ⟨lng_ne2 t c, h⟩
    exact ⟨h, by rw [digOf_new hno]; rfl, by rw [digAdd_new hno]; rfl⟩
/-- The fourth: the first, where it is the same; else a new one, or one of the two. -/
theorem lng_4 (t u : List UInt8) (L : List (List UInt8)) (h : u ≠ t) : digOf (t :: L) u ≠ 1 := by
  unfold digOf
  rw [List.idxOf_cons]
  have e : (t == u) = false := by rw [beq_eq_false_iff_ne]; exact fun h' => h h'.symm
  simp only [e, cond_false]
  omega
theorem lng_same (t : List UInt8) (L : List (List UInt8)) : digOf (t :: L) t = 1 ∧ digAdd (t :: L) t = t :: L := ⟨by simp [digOf], digAdd_old (by simp)⟩
theorem lng_add (t u : List UInt8) (L : List (List UInt8)) : ∃ M, digAdd (t :: L) u = t :: M ∧ M.length ≤ L.length + 1 := by
  unfold digAdd
  split
  · exact ⟨L, rfl, by omega⟩
  · exact ⟨L ++ [u], by simp, by simp⟩
theorem ofOk_no (L : List (List UInt8)) : ofOk L ((L.length : Int) + 1) = false ∧ ofOk L 0 = false ∧ ofOk L (-1) = false := by
  refine ⟨?_, ?_, ?_⟩ <;> (simp only [ofOk, decide_eq_false_iff_not]; omega)
theorem ofRow_no {L : List (List UInt8)} {d : Int} (h : ofOk L d = false) : ofRow L d = [] := by
  simp only [ofOk, decide_eq_false_iff_not] at h
  rw [ofRow, if_neg h]
/-- xor on a byte: the same just if it is with 0. -/
theorem xor_same (x c : UInt8) : x ^^^ c = x ↔ c = 0 := by
  constructor
  · intro h
    have := congrArg (x ^^^ ·) h
    simpa [← UInt8.xor_assoc] using this
  · rintro rfl; simp
theorem set_same {t : List UInt8} {k : Nat} (h : k < t.length) (b : UInt8) : t.set k b = t ↔ b = t[k] := by
  constructor
  · intro e
    have := congrArg (fun l : List UInt8 => l[k]?) e
    simpa [List.getElem?_set_self h, List.getElem?_eq_getElem h] using this
  · rintro rfl; exact List.set_getElem_self h
end Go.Proofs.Ytlodklmcamanpaa
