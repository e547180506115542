/- The document's own sum of a row of numbers. Conditions: the row lies in memory. -/
import Derived.Test.YtnicfhafepiknaaAcctRef2
import Derived.Test.YtnicfhafepiknaaAcctSteps
import Derived.LoopTactic
import Derived.RegionTactic
namespace Go.Proofs.Ytnicfhafepiknaa
open Go.RowKit Go.WideShapes

theorem sum_nonneg : ∀ {l : List Int}, (∀ x ∈ l, 0 ≤ x) → 0 ≤ l.sum
  | [], _ => by simp
  | x :: l, h => by
    have h1 := h x (by simp)
    have h2 := sum_nonneg (l := l) fun y hy => h y (by simp [hy])
    simp only [List.sum_cons]; omega
theorem sum_take {l : List Int} {k : Nat} (hk : k < l.length) : (l.take (k + 1)).sum = (l.take k).sum + l[k] := by
  rw [List.take_succ_eq_append_getElem hk, List.sum_append]; simp
theorem sum_part {l : List Int} (h : ∀ x ∈ l, 0 ≤ x) (k : Nat) : (l.take k).sum ≤ l.sum := by
  have h1 : l.sum = (l.take k).sum + (l.drop k).sum := by rw [← List.sum_append, List.take_append_drop]
  have h2 := sum_nonneg (l := l.drop k) fun x hx => h x (List.mem_of_mem_drop hx)
  omega

set_option maxRecDepth 100000 in
set_option maxHeartbeats 4000000 in
theorem rsum1_any {w : World} {A : Option Addr} {cap : Nat} {l : List Int} (hl : NumsIn w A l) (hu : ∀ x ∈ l, U64 x) (hll : l.length ≤ 1000000) :
    Calls Try.prog 43 #[.slice A l.length cap] w fun e w' => e = .returned (.tuple #[.int .u64 (if l.sum < 18446744073709551616 then l.sum else 0), .bool (decide (l.sum < 18446744073709551616))]) ∧ w' = w := by
  obtain ⟨nl, hn⟩ : ∃ k, l.length = k := ⟨_, rfl⟩
  rw [hn] at hll ⊢
  have HN := Lib.hid hn; have HL := Lib.hid hl; have HU := Lib.hid hu
  have HNN : Hid (∀ x ∈ l, 0 ≤ x) := Lib.hid fun x hx => (hu x hx).1
  obtain ⟨rv, hrv⟩ : ∃ r, (if l.sum < 18446744073709551616 then l.sum else 0) = r := ⟨_, rfl⟩
  obtain ⟨dv, hdv⟩ : ∃ r, decide (l.sum < 18446744073709551616) = r := ⟨_, rfl⟩
  rw [hrv, hdv]
  have HRV := Lib.hid hrv; have HDV := Lib.hid hdv
  clear hl hn hu hrv hdv
  go_enter Try.func43, Try.ntmps43
  go_wp2_with fail
  go_loopw [4, 5, 6] (fun sn so i wr => ∃ (k : Nat) (n : Int) (ok : Bool), k ≤ nl ∧ i = .int .i64 k ∧ sn = .int .u64 n ∧ so = .bool ok ∧ wr = w ∧ ((ok = true ∧ n = (l.take k).sum ∧ U64 n) ∨ (ok = false ∧ n = 0 ∧ 18446744073709551616 ≤ l.sum))) (fun _ _ i _ => nl - (intOf i).toNat)
  case atStart => exact ⟨0, 0, true, by omega, rfl, rfl, rfl, rfl, Or.inl ⟨rfl, by simp, by decide⟩⟩
  case round =>
    obtain ⟨k, n, ok, hk, rfl, rfl, rfl, rfl, hst⟩ := hrel
    by_cases hk' : k < nl
    · rcases hst with ⟨rfl, hn, hu⟩ | ⟨rfl, rfl, hbig⟩
      · obtain ⟨b, off, rfl, hb, hc, hx⟩ := HL.out.at (i := k) (by rw [HN.out]; exact hk')
        have hs := sum_take (l := l) (k := k) (by rw [HN.out]; exact hk')
        have hp := sum_part HNN.out (k + 1)
        generalize l[k]'(by rw [HN.out]; exact hk') = x at hc hx hs
        have K := radd6_any (w := wr) hu hx
        rw [← hn] at hs
        by_cases hlt : n + x < 18446744073709551616
        · rw [if_pos hlt, decide_eq_true hlt] at K
          have HK := Lib.hid K; have HS := Lib.hid hs; have HUX : Hid (U64 (n + x)) := Lib.hid ⟨by have := hu.1; have := hx.1; omega, hlt⟩
          clear K hs hp hn hu hx hlt
          go_wp2_with fail
          refine HK.out.mono ?_
          rintro e w2 ⟨rfl, rfl⟩
          go_wp2_with fail
          go_roundw
          case rel => exact ⟨k + 1, _, true, hk', by go_num, rfl, rfl, by first | rfl | trivial, Or.inl ⟨rfl, HS.out.symm, HUX.out⟩⟩
          case measure => simp [intOf]; omega
        · rw [if_neg hlt, decide_eq_false hlt] at K
          have HK := Lib.hid K; have HBIG : Hid (18446744073709551616 ≤ l.sum) := Lib.hid (by omega)
          clear K hs hp hn hu hx hlt
          go_wp2_with fail
          refine HK.out.mono ?_
          rintro e w2 ⟨rfl, rfl⟩
          go_wp2_with fail
          go_roundw
          case rel => exact ⟨k + 1, 0, false, hk', by go_num, rfl, rfl, by first | rfl | trivial, Or.inr ⟨rfl, rfl, HBIG.out⟩⟩
          case measure => simp [intOf]; omega
      · have HBIG := Lib.hid hbig
        clear hbig
        go_wp2_with fail
        go_ret2
        have hnb : ¬ l.sum < 18446744073709551616 := by have := HBIG.out; omega
        exact ⟨by rw [← HRV.out, ← HDV.out, if_neg hnb, decide_eq_false hnb]; rfl, rfl⟩
    · obtain rfl : k = nl := by omega
      have ht : l.take k = l := List.take_of_length_le (by rw [HN.out]; exact Nat.le_refl _)
      rcases hst with ⟨rfl, hn, hu⟩ | ⟨rfl, rfl, hbig⟩
      · rw [ht] at hn
        have HNS := Lib.hid hn; have HUU := Lib.hid hu
        clear hk hk' hn hu hll
        go_wp2_with fail
        go_ret2
        have hlt : l.sum < 18446744073709551616 := by rw [← HNS.out]; exact HUU.out.2
        exact ⟨by rw [← HRV.out, ← HDV.out, if_pos hlt, decide_eq_true hlt, ← HNS.out]; rfl, rfl⟩
      · have HBIG := Lib.hid hbig
        clear hbig hk hk' hll
        go_wp2_with fail
        go_ret2
        have hnb : ¬ l.sum < 18446744073709551616 := by have := HBIG.out; omega
        exact ⟨by rw [← HRV.out, ← HDV.out, if_neg hnb, decide_eq_false hnb]; rfl, rfl⟩
end Go.Proofs.Ytnicfhafepiknaa
