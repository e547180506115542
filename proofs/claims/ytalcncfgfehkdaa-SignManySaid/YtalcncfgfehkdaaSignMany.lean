/- SignMany answers true, and makes only new memory. Conditions: sign's calls are as their contracts say. -/
import Derived.Test.YtalcncfgfehkdaaSignAwake
import Derived.Test.YtalcncfgfehkdaaB8
import Derived.Deep.CutBlock
import Derived.Deep.DeepCutAuto
namespace Go.Proofs.Ytalcncfgfehkdaa
open Go.RowKit Go.WideShapes

/-- Who signed what, behind k rounds. -/
def manyL (who : Int) : Nat → List (Int × Int)
  | 0 => []
  | k + 1 => signAdd (signAdd (manyL who k) (who, (k : Int))) ((k : Int), 1000 + (k : Int))
theorem mem_manyL {who : Int} {p : Int × Int} : ∀ {k : Nat}, p ∈ manyL who k ↔ ∃ i : Nat, i < k ∧ (p = (who, (i : Int)) ∨ p = ((i : Int), 1000 + (i : Int)))
  | 0 => by simp [manyL]
  | k + 1 => by
    rw [manyL, mem_signAdd, mem_signAdd, mem_manyL (k := k)]
    constructor
    · rintro (h | h | ⟨i, hi, h⟩)
      · exact ⟨k, by omega, Or.inr h⟩
      · exact ⟨k, by omega, Or.inl h⟩
      · exact ⟨i, by omega, h⟩
    · rintro ⟨i, hi, h⟩
      by_cases e : i = k
      · subst e
        exact h.elim (fun h => Or.inr (Or.inl h)) Or.inl
      · exact Or.inr (Or.inr ⟨i, by omega, h⟩)
theorem manyL_length (who : Int) : ∀ k : Nat, (manyL who k).length ≤ 2 * k
  | 0 => Nat.le_refl _
  | k + 1 => by
    have h1 := signAdd_length (signAdd (manyL who k) (who, (k : Int))) ((k : Int), 1000 + (k : Int))
    have h2 := signAdd_length (manyL who k) (who, (k : Int))
    have h3 := manyL_length who k
    rw [manyL]; omega
theorem manyL_all {who : Int} {N i : Nat} (hi : i < N) (hN : N ≤ 16) : allOf (manyL who N) (i : Int) = [who] := by
  refine allOf_is (by simp) fun x => ?_
  rw [List.mem_singleton, mem_manyL]
  constructor
  · rintro rfl
    exact ⟨i, hi, Or.inl rfl⟩
  · rintro ⟨j, hj, h | h⟩
    · injection h with h1 h2
    · injection h with h1 h2
      omega
theorem manyL_one {who : Int} {N i : Nat} (hi : i < N) : decide (((i : Int), 1000 + (i : Int)) ∈ manyL who N) = true :=
  decide_eq_true (mem_manyL.2 ⟨i, hi, Or.inr rfl⟩)
theorem manyL_not {who : Int} {N i : Nat} (hN : N ≤ 16) : decide (((i : Int), 1001 + (i : Int)) ∈ manyL who N) = false := by
  refine decide_eq_false fun h => ?_
  obtain ⟨j, hj, h | h⟩ := mem_manyL.1 h
  · injection h with h1 h2
    omega
  · injection h with h1 h2
    omega
theorem manyL_at {who : Int} {N a : Nat} (ha : a < 16) : decide ((who, (a : Int)) ∈ manyL who N) = decide (a < N) := by
  rw [decide_eq_decide, mem_manyL]
  constructor
  · rintro ⟨j, hj, h | h⟩
    · injection h with h1 h2
      omega
    · injection h with h1 h2
      omega
  · intro h
    exact ⟨a, h, Or.inl rfl⟩
theorem and15' (n : Int) : bits .and .i64 n 15 = n % 16 := and_mask n 4 15 (by decide) (by decide)
/-- The one int of a told row. -/
theorem Turns.one_int {F0 : Nat → Prop} {w0 w : World} {x : Value} {n : Int} {R : HP} (h : Turns F0 w0 w (star (RI x [n]) R)) :
    ∃ g off cap, x = .slice (some ⟨g, off, none⟩) 1 cap ∧ g < w.heap.size ∧ w.cell? ⟨g, off, none⟩ = some (.int .i64 n) ∧ w.frozen? ⟨g, off, none⟩ = false := by
  obtain ⟨A, cap, rfl, _, _, hl⟩ := h.rv
  rcases hl with hl | ⟨g, off, rfl, hg, hc⟩
  · simp [cellsI] at hl
  · have := hc 0 (by simp [cellsI])
    exact ⟨g, off, cap, rfl, hg, by simpa [cellsI] using this.1, by simpa using this.2⟩

set_option maxRecDepth 100000 in
set_option maxHeartbeats 16000000 in
theorem smany_some (T : SignApi) (who n at_ : Int) (w : World) (hwho : I64 who) :
    Calls Try.prog 4 #[.int .i64 who, .int .i64 n, .int .i64 at_] w fun e w' => e = .returned (.bool true) ∧ Below w.heap.size w w' := by
  have hm := and15' n
  obtain ⟨m, hmm⟩ : ∃ m : Nat, n % 16 = m := ⟨(n % 16).toNat, by omega⟩
  have hm15 : m ≤ 15 := by omega
  rw [hmm] at hm
  have ha := and15' at_
  obtain ⟨a, haa⟩ : ∃ m : Nat, at_ % 16 = m := ⟨(at_ % 16).toNat, by omega⟩
  have ha15 : a ≤ 15 := by omega
  rw [haa] at ha
  have HW := Lib.hid hwho
  clear hmm haa hwho
  have hw1 : IntKind.i64.wrap ((m : Int) + 1) = (m : Int) + 1 := IntWalk.i64_in _ (by omega)
  go_enter Try.func4, Try.ntmps4
  go_wp2_with fail
  refine (st_book T (St.start w w (Below.refl _ _))).mono ?_
  rintro e w1 ⟨p, rfl, h1⟩
  have H1 := Lib.hid h1
  clear h1
  go_upto_block 0 with fail
  go_cut [8] (fun _ wx => St w wx (star (T.IsB (.pointer (some p)) (manyL who (m + 1))) nothing))
  case first =>
    go_wp2_with fail
    go_loopw [8] (fun i wr => ∃ k : Nat, k ≤ m + 1 ∧ i = .int .i64 k ∧ St w wr (star (T.IsB (.pointer (some p)) (manyL who k)) nothing)) (fun i _ => m + 1 - (intOf i).toNat)
    case atStart => exact ⟨0, by omega, rfl, H1.out⟩
    case round =>
      obtain ⟨k, hk, rfl, hst⟩ := hrel
      have HST := Lib.hid hst
      clear hst
      by_cases hkm : k < m + 1
      · have hlen := manyL_length who k
        have hlen2 := signAdd_length (manyL who k) (who, (k : Int))
        have K := HST.out.sign who k (by omega) HW.out ⟨by omega, by omega⟩
        have HK := Lib.hid K
        have hL3 : (signAdd (manyL who k) (who, (k : Int))).length ≤ 1000000 := by omega
        have HL3 := Lib.hid hL3
        have hw2 : IntKind.i64.wrap (1000 + (k : Int)) = 1000 + (k : Int) := IntWalk.i64_in _ (by omega)
        clear K hlen hlen2 hL3
        go_wp2_with fail
        refine HK.out.mono ?_
        rintro e w3 ⟨rfl, h3⟩
        have HK2 := Lib.hid (h3.sign k (1000 + (k : Int)) HL3.out ⟨by omega, by omega⟩ ⟨by omega, by omega⟩)
        clear h3 HK HL3
        go_wp2_with fail
        refine HK2.out.mono ?_
        rintro e w4 ⟨rfl, h4⟩
        have H4 := Lib.hid h4
        clear h4 HK2
        go_wp2_with fail
        go_roundw
        case rel => exact ⟨k + 1, by omega, by go_num, H4.out⟩
        case measure => simp [intOf]; omega
      · obtain rfl : k = m + 1 := by omega
        go_wp2_with fail
        go_meet
        exact HST.out
  case rest =>
    have HST := Lib.hid hcut
    obtain ⟨w2, rfl⟩ : ∃ w2 : World, w2 = wc := ⟨_, rfl⟩
    have hlen : (manyL who (m + 1)).length ≤ 1000000 := by have := manyL_length who (m + 1); omega
    have HL := Lib.hid hlen
    clear hcut H1 hlen
    go_upto_block 2 with fail
    go_cut [9] (fun _ wx => St w wx (star (T.IsB (.pointer (some p)) (manyL who (m + 1))) nothing))
    case first =>
      go_wp2_with fail
      go_loopw [9] (fun i wr => ∃ k : Nat, k ≤ m + 1 ∧ i = .int .i64 k ∧ St w wr (star (T.IsB (.pointer (some p)) (manyL who (m + 1))) nothing)) (fun i _ => m + 1 - (intOf i).toNat)
      case atStart => exact ⟨0, by omega, rfl, HST.out⟩
      case round =>
        obtain ⟨k, hk, rfl, hst⟩ := hrel
        have HS := Lib.hid hst
        clear hst HST
        by_cases hkm : k < m + 1
        · have K := HS.out.all k HL.out ⟨by omega, by omega⟩
          rw [manyL_all hkm (by omega)] at K
          have HK := Lib.hid K
          have hw2 : IntKind.i64.wrap (1000 + (k : Int)) = 1000 + (k : Int) := IntWalk.i64_in _ (by omega)
          have hw3 : IntKind.i64.wrap (1001 + (k : Int)) = 1001 + (k : Int) := IntWalk.i64_in _ (by omega)
          clear K
          go_wp2_with fail
          refine HK.out.mono ?_
          rintro e w3 ⟨x, rfl, h3⟩
          obtain ⟨g, off, cap, rfl, hg, hc3, _⟩ := h3.one_int
          have H3 := Lib.hid h3
          have K := h3.swap.has k (1000 + (k : Int)) HL.out ⟨by omega, by omega⟩ ⟨by omega, by omega⟩
          rw [manyL_one hkm] at K
          have HK2 := Lib.hid K
          clear K HK h3
          go_wp2_with fail
          refine HK2.out.mono ?_
          rintro e w4 ⟨rfl, h4, _⟩
          have K := h4.has k (1001 + (k : Int)) HL.out ⟨by omega, by omega⟩ ⟨by omega, by omega⟩
          rw [manyL_not (by omega)] at K
          have HK3 := Lib.hid K
          clear K HK2 h4 H3 hc3
          go_wp2_with fail
          refine HK3.out.mono ?_
          rintro e w5 ⟨rfl, h5, _⟩
          obtain ⟨g', off', cap', e, hg5, hc5, hf5⟩ := h5.swap.one_int
          injection e with e1 _ e2
          injection e1 with e1
          injection e1 with e3 e4 _
          subst e3; subst e4; subst e2
          have hset := (h5.swap.rv_set 0 (by simp [cellsI]) (.int .i64 (wrap64 (who + 1)))).snd
          rw [Nat.add_zero] at hset
          have K := hset.all k HL.out ⟨by omega, by omega⟩
          rw [manyL_all hkm (by omega)] at K
          have HK4 := Lib.hid K
          clear K HK3 h5 hset
          go_wp2_with fail
          refine HK4.out.mono ?_
          rintro e w6 ⟨y, rfl, h6⟩
          obtain ⟨g6, off6, cap6, rfl, hg6, hc6, _⟩ := h6.one_int
          have H6 := Lib.hid h6.snd
          clear HK4 h6
          go_wp2_with fail
          go_roundw
          case rel => exact ⟨k + 1, by omega, by go_num, H6.out⟩
          case measure => simp [intOf]; omega
        · obtain rfl : k = m + 1 := by omega
          go_wp2_with fail
          go_meet
          exact HS.out
    case rest =>
      have HS := Lib.hid hcut
      obtain ⟨w3, rfl⟩ : ∃ w3 : World, w3 = wc := ⟨_, rfl⟩
      have K := HS.out.has who a HL.out HW.out ⟨by omega, by omega⟩
      rw [manyL_at (by omega)] at K
      have HK := Lib.hid K
      clear hcut HST K
      go_wp2_with fail
      refine HK.out.mono ?_
      rintro e w4 ⟨rfl, h4, _⟩
      have HB := Lib.hid h4.below
      have hsz := h4.size
      have HSZ := Lib.hid hsz
      clear HK h4 hsz
      have hw4 : IntKind.i64.wrap ((a : Int) - 1000) = (a : Int) - 1000 := IntWalk.i64_in _ (by omega)
      have hge : decide ((1000 : Int) ≤ (a : Int)) = false := by simp; omega
      by_cases hlt : a < m + 1
      · rw [decide_eq_true hlt]
        go_wp2_with fail
        refine (sawake_any T _).mono ?_
        rintro e w8 ⟨rfl, hb8⟩
        have HB8 := Lib.hid hb8
        clear hb8
        go_wp2_with fail
        go_ret
        exact ⟨rfl, HB.out.trans (HB8.out.mono HSZ.out)⟩
      · rw [decide_eq_false hlt]
        have hd : decide ((a : Int) < (m : Int) + 1) = false := by simp; omega
        obtain ⟨pb, hpb⟩ : ∃ q, (who == (a : Int) - 1000) = q := ⟨_, rfl⟩
        rcases pb with _ | _
        all_goals
          go_wp2_with fail
          refine (sawake_any T _).mono ?_
          rintro e w8 ⟨rfl, hb8⟩
          have HB8 := Lib.hid hb8
          clear hb8
          go_wp2_with fail
          go_ret
          exact ⟨rfl, HB.out.trans (HB8.out.mono HSZ.out)⟩
end Go.Proofs.Ytalcncfgfehkdaa
