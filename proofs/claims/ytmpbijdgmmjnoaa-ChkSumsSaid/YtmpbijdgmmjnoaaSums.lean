/- ChkSums answers true. Conditions: the numbers are words of 64 bits, and the row lies in memory. -/
import Derived.Test.YtmpbijdgmmjnoaaAwake
import Derived.Laws.BitsLemmas
import Derived.Laws.AppendOwnNone
import Derived.OwnWalk
import Derived.Below
import Derived.Deep.DeepCutAuto
import Derived.WideShapes
namespace Go.Proofs.Ytmpbijdgmmjnoaa
open Go.RowKit Go.Shelf Go.WideShapes

theorem mask255 (n : Int) : bits .and .i64 n 255 = n % 256 := by
  have h255 : (BitVec.ofInt 64 255).toNat = 2 ^ 8 - 1 := by decide
  have key : (BitVec.ofInt 64 n &&& BitVec.ofInt 64 255).toNat = (n % ((2 ^ 64 : Nat) : Int)).toNat % 2 ^ 8 := by
    rw [BitVec.toNat_and, BitVec.toNat_ofInt, h255, Nat.and_two_pow_sub_one_eq_mod]
  show IntKind.i64.wrap ((BitVec.ofInt 64 n &&& BitVec.ofInt 64 255).toNat : Nat) = n % 256
  rw [key, IntKind.wrap_i64]
  omega
theorem u64_info : (Try.prog.info? 22).map (fun i => (i.zero, i.size, i.bytes)) = some (some (.int .u64 0), 1, 8) := by kernel_rfl

theorem sums_long (at_ m : Int) (A : Option Addr) (n cap : Nat) (hn : 60 < n) (hn2 : n ≤ 9223372036854775807) (w : World) :
    Calls Try.prog 4 #[.slice A n cap, .int .i64 at_, .int .u64 m] w fun e w' => e = .returned (.bool true) ∧ Below w.heap.size w w' := by
  go_enter Try.func4, Try.ntmps4
  go_wp2_with (go_at_call 11; refine (awake_any _).mono ?_; rintro e w' ⟨rfl, rfl⟩)
  go_ret
  exact ⟨rfl, (Below.refl _ _).alloc (Nat.le_refl _) _⟩

/-- The cells of a row of numbers. -/
def cellsOf (xs : List Int) : List Value := xs.map (Value.int .u64)
theorem cellsOf_oneCell (xs : List Int) : ∀ u ∈ cellsOf xs, u.oneCell' = true := by
  intro u hu
  simp only [cellsOf, List.mem_map] at hu
  obtain ⟨x, _, rfl⟩ := hu
  rfl
theorem cellsOf_at {xs : List Int} {j : Nat} {u : Value} (h : (cellsOf xs)[j]? = some u) : j < xs.length ∧ u = .int .u64 (xs.getD j 0) := by
  simp only [cellsOf, List.getElem?_map] at h
  rcases Nat.lt_or_ge j xs.length with hj | hj
  · rw [List.getElem?_eq_getElem hj] at h
    simp only [Option.map_some, Option.some.injEq] at h
    exact ⟨hj, by rw [← h]; simp [List.getD, List.getElem?_eq_getElem hj]⟩
  · rw [List.getElem?_eq_none hj] at h; cases h
/-- A row of the call's own lies in memory. -/
theorem own_lies {w : World} {base n : Nat} {v : Value} {xs : List Int} (h : w.ownsRow base 22 1 v n (cellsOf xs)) : ∃ (A : Option Addr) (cap : Nat), v = .slice A n cap ∧ xs.length = n ∧ Lies w A xs := by
  have hl : xs.length = n := by have := h.1; simp only [cellsOf, List.length_map] at this; omega
  rcases h.2 with ⟨rfl, rfl⟩ | ⟨g, cap, cur, rfl, _, _, _⟩
  · exact ⟨none, 0, rfl, hl, Or.inl (List.eq_nil_of_length_eq_zero hl)⟩
  · refine ⟨_, cap, rfl, hl, Or.inr ⟨g, 0, rfl, fun j hj => ?_⟩⟩
    have hc := h.cells (g := g) rfl j (.int .u64 (xs.getD j 0)) (by simp [cellsOf, List.getElem?_map, List.getD, List.getElem?_eq_getElem hj])
    rw [add_plain] at hc
    exact hc
theorem drop_succ_rev (xs : List Int) (q : Nat) (hq : q < xs.length) : (xs.drop q).reverse = (xs.drop (q + 1)).reverse ++ [xs.getD q 0] := by
  rw [List.drop_eq_getElem_cons hq]
  simp [List.getD, List.getElem?_eq_getElem hq]
theorem words_take {xs : List Int} (h : Words xs) (k : Nat) : Words (xs.take k) := fun x hx => h x (List.mem_of_mem_take hx)
theorem words_drop {xs : List Int} (h : Words xs) (k : Nat) : Words (xs.drop k) := fun x hx => h x (List.mem_of_mem_drop hx)
theorem words_rev {xs : List Int} (h : Words xs) : Words xs.reverse := fun x hx => h x (List.mem_reverse.1 hx)
theorem words_snoc {xs : List Int} {m : Int} (h : Words xs) (hm : Word m) : Words (xs ++ [m]) := by
  intro x hx
  rcases List.mem_append.1 hx with h1 | h1
  · exact h x h1
  · rw [List.mem_singleton] at h1; subst h1; exact hm
theorem word_kept {x : Int} (h : 0 ≤ x) : Word (kept x) := by
  unfold kept Word; split <;> omega
/-- What the sums of a row, of its parts and of the row with one more number tell. -/
theorem sums_facts (xs : List Int) (k : Nat) (m : Int) (hx : Words xs) (hm : Word m) :
    (fits (tot xs) = true ∧ fits (tot (xs.take k)) = true ∧ fits (tot (xs.drop k)) = true ∧ fits (kept (tot (xs.take k)) + kept (tot (xs.drop k))) = true ∧ kept (kept (tot (xs.take k)) + kept (tot (xs.drop k))) = kept (tot xs)) ∨
    (fits (tot xs) = false ∧ fits (tot (xs ++ [m])) = false ∧ (fits (tot (xs.take k)) = false ∨ (fits (tot (xs.take k)) = true ∧ fits (tot (xs.drop k)) = false) ∨
      (fits (tot (xs.take k)) = true ∧ fits (tot (xs.drop k)) = true ∧ fits (kept (tot (xs.take k)) + kept (tot (xs.drop k))) = false))) := by
  have e := tot_split xs k
  have h1 := tot_take_nonneg xs k hx.nonneg
  have h2 := tot_drop_nonneg xs k hx.nonneg
  have e2 : tot (xs ++ [m]) = tot xs + m := by rw [tot_append]; simp [tot]
  have hm0 := hm.1
  generalize tot (xs.take k) = t1 at *
  generalize tot (xs.drop k) = t2 at *
  by_cases hT : tot xs < 18446744073709551616
  · have a1 : t1 < 18446744073709551616 := by omega
    have a2 : t2 < 18446744073709551616 := by omega
    refine Or.inl ⟨fits_yes hT, fits_yes a1, fits_yes a2, ?_, ?_⟩ <;> rw [kept_yes a1, kept_yes a2, ← e]
    exact fits_yes hT
  · have hT : 18446744073709551616 ≤ tot xs := by omega
    refine Or.inr ⟨fits_no hT, by rw [e2]; exact fits_no (by omega), ?_⟩
    by_cases a1 : t1 < 18446744073709551616
    · by_cases a2 : t2 < 18446744073709551616
      · refine Or.inr (Or.inr ⟨fits_yes a1, fits_yes a2, ?_⟩)
        rw [kept_yes a1, kept_yes a2, ← e]; exact fits_no hT
      · exact Or.inr (Or.inl ⟨fits_yes a1, fits_no (by omega)⟩)
    · exact Or.inl (fits_no (by omega))

set_option maxRecDepth 100000 in
set_option maxHeartbeats 4000000 in
theorem sums_some (at_ m : Int) (hm : Word m) (b off n cap : Nat) (xs : List Int) (hn : xs.length = n) (hx : Words xs) (h0 : 0 < n) (hl : n ≤ 60) (hcap : n ≤ cap) (w : World)
    (hc : ∀ j, j < n → w.cell? ⟨b, off + j, none⟩ = some (.int .u64 (xs.getD j 0))) :
    Calls Try.prog 4 #[.slice (some ⟨b, off, none⟩) n cap, .int .i64 at_, .int .u64 m] w fun e w' => e = .returned (.bool true) ∧ Below w.heap.size w w' := by
  have h255 := mask255 at_
  have h1 : 0 ≤ at_ % 256 := by omega
  have h2 : at_ % 256 < 256 := by omega
  obtain ⟨k, hk⟩ : ∃ k : Nat, at_ % 256 % (n + 1) = k := ⟨(at_ % 256 % (n + 1)).toNat, by have := Int.emod_nonneg (at_ % 256) (show (n : Int) + 1 ≠ 0 by omega); omega⟩
  have hk2 : k ≤ n := by have := Int.emod_lt_of_pos (at_ % 256) (show 0 < (n : Int) + 1 by omega); omega
  have hb : b < w.heap.size := World.block_lt_of_cell? w ⟨b, off + 0, none⟩ (hc 0 h0)
  obtain ⟨i0, hi, hz0, hz1, hz2⟩ := info_parts u64_info
  have F := sums_facts xs k m hx hm
  have W1 := word_kept (tot_take_nonneg xs k hx.nonneg)
  have W2 := word_kept (tot_drop_nonneg xs k hx.nonneg)
  obtain ⟨s, es⟩ : ∃ p, kept (tot xs) = p := ⟨_, rfl⟩
  obtain ⟨ok, eok⟩ : ∃ p, fits (tot xs) = p := ⟨_, rfl⟩
  obtain ⟨a1, ea⟩ : ∃ p, kept (tot (xs.take k)) = p := ⟨_, rfl⟩
  obtain ⟨x, ex⟩ : ∃ p, fits (tot (xs.take k)) = p := ⟨_, rfl⟩
  obtain ⟨b1, eb⟩ : ∃ p, kept (tot (xs.drop k)) = p := ⟨_, rfl⟩
  obtain ⟨y, ey⟩ : ∃ p, fits (tot (xs.drop k)) = p := ⟨_, rfl⟩
  obtain ⟨c, ec⟩ : ∃ p, kept (a1 + b1) = p := ⟨_, rfl⟩
  obtain ⟨z, ez⟩ : ∃ p, fits (a1 + b1) = p := ⟨_, rfl⟩
  obtain ⟨mv, emv⟩ : ∃ p, kept (tot (xs ++ [m])) = p := ⟨_, rfl⟩
  obtain ⟨more, emore⟩ : ∃ p, fits (tot (xs ++ [m])) = p := ⟨_, rfl⟩
  rw [eok, ex, ey, ea, eb, ez, ec, es, emore] at F
  rw [ea] at W1; rw [eb] at W2
  have L1 : Lies w (some ⟨b, off, none⟩) xs := Or.inr ⟨b, off, rfl, by rw [hn]; exact hc⟩
  have L2 : Lies w (some ⟨b, off, none⟩) (xs.take k) := by
    refine Or.inr ⟨b, off, rfl, fun j hj => ?_⟩
    rw [List.length_take] at hj
    rw [hc j (by omega)]
    simp [List.getD, show j < k by omega]
  have L3 : Lies w (some ⟨b, off + k, none⟩) (xs.drop k) := by
    refine Or.inr ⟨b, off + k, rfl, fun j hj => ?_⟩
    rw [List.length_drop] at hj
    rw [Nat.add_assoc, hc (k + j) (by omega)]
    simp [List.getD]
  have K1 : Calls Try.prog 12 #[.slice (some ⟨b, off, none⟩) n cap] w _ := sum_is w hn hx (by omega) es eok L1
  have K2 : Calls Try.prog 12 #[.slice (some ⟨b, off, none⟩) k cap] w _ := sum_is w (by rw [List.length_take]; omega) (words_take hx k) (by rw [List.length_take]; omega) ea ex L2
  have K3 : Calls Try.prog 12 #[.slice (some ⟨b, off + k, none⟩) (n - k) (cap - k)] w _ := sum_is w (by rw [List.length_drop]; omega) (words_drop hx k) (by rw [List.length_drop]; omega) eb ey L3
  have K3' : k = n → ∀ cap', Calls Try.prog 12 #[.slice (some ⟨b, off, none⟩) (n - k) cap'] w _ := fun h cap' => sum_is w (by rw [List.length_drop]; omega) (words_drop hx k) (by rw [List.length_drop]; omega) eb ey (Or.inl (List.drop_eq_nil_of_le (by omega)))
  have K4 := fun w => add_is W1 W2 ec ez w
  have K5 : ∀ (A : Option Addr) (cap : Nat) (w : World), Lies w A xs.reverse → Calls Try.prog 12 #[.slice A n cap] w fun e w' => e = .returned (.tuple #[.int .u64 s, .bool ok]) ∧ w = w' :=
    fun A cap w h => sum_is w (by simp [hn]) (words_rev hx) (by simp; omega) (by rw [tot_reverse]; exact es) (by rw [tot_reverse]; exact eok) h
  have K6 : ∀ (A : Option Addr) (cap : Nat) (w : World), Lies w A (xs ++ [m]) → Calls Try.prog 12 #[.slice A (n + 1) cap] w fun e w' => e = .returned (.tuple #[.int .u64 mv, .bool more]) ∧ w = w' :=
    fun A cap w h => sum_is w (by simp [hn]) (words_snoc hx hm) (by simp; omega) emv emore h
  have K1 := Lib.hid K1; have K2 := Lib.hid K2; have K3 := Lib.hid K3; have K3' := Lib.hid K3'; have K4 := Lib.hid K4; have K5 := Lib.hid K5; have K6 := Lib.hid K6
  have HC := Lib.hid hc; have HN := Lib.hid hn; have HF := Lib.hid F
  clear hc hn L1 L2 L3 F es eok ea ex eb ey ec ez emv emore
  go_enter Try.func4, Try.ntmps4
  go_upto_region 6 with (first
    | ((with_reducible refine K1.out.mono ?_); rintro e w' ⟨rfl, rfl⟩)
    | ((with_reducible refine K2.out.mono ?_); rintro e w' ⟨rfl, rfl⟩))
  go_cut [0, 12, 13] (fun s0 s12 s13 wx => s0 = .slice (some ⟨b, off, none⟩) n cap ∧ s12 = .int .u64 b1 ∧ s13 = .bool y ∧ wx = w)
  case first =>
    go_wp2_with (first
      | ((with_reducible refine K3.out.mono ?_); rintro e w' ⟨rfl, rfl⟩)
      | ((with_reducible refine (K3'.out (by omega) _).mono ?_); rintro e w' ⟨rfl, rfl⟩))
    all_goals
      go_meet
      exact ⟨by first | rfl | simp [*], rfl, rfl, rfl⟩
  case rest =>
    obtain ⟨rfl, rfl, rfl, rfl⟩ := hcut
    go_wp2_with ((with_reducible refine (K4.out _).mono ?_); rintro e w' ⟨rfl, rfl⟩)
    go_loopw [16, 17] (fun v i wr => ∃ r : Nat, r ≤ n ∧ i = .int .i64 ((r : Int) - 1) ∧ wr.ownsRow wc.heap.size 22 1 v (n - r) (cellsOf (xs.drop r).reverse) ∧ Below wc.heap.size wc wr) (fun _ i _ => (intOf i + 1).toNat)
    case atStart => exact ⟨n, by omega, rfl, by rw [HN.out.symm, List.drop_length]; simpa [cellsOf] using World.ownsRow_nil _ _ _ _, Below.refl _ _⟩
    case round =>
      obtain ⟨r, hr, rfl, hown, hbl⟩ := hrel
      rcases r with _ | q
      · have e : ((0 : Nat) : Int) - 1 = -1 := rfl
        rw [e]; clear e
        rw [Nat.sub_zero, List.drop_zero] at hown
        obtain ⟨A, cap', rfl, _, hlies⟩ := own_lies hown
        have K7 := Lib.hid (K5.out A cap' wr hlies)
        clear hlies hown
        go_upto_region 14 with ((with_reducible refine K7.out.mono ?_); rintro e w' ⟨rfl, rfl⟩)
        have hsz := hbl.size
        have hown0 : (wr.alloc (.cells #[] 22)).ownsRow wc.heap.size 22 1 (.slice (some ⟨wr.heap.size, 0, none⟩) 0 0) 0 [] := World.ownsRow_made wr #[] 0 hsz (Nat.zero_le _) rfl
        have hsrc : ∀ (j : Nat) (u : Value), (cellsOf xs)[j]? = some u → (wr.alloc (.cells #[] 22)).cell? ((⟨b, off, none⟩ : Addr).add j) = some u := by
          intro j u hu
          obtain ⟨hj, rfl⟩ := cellsOf_at hu
          rw [add_plain, World.cell?_alloc_past _ _ _ (show b < wr.heap.size by omega)]
          exact (hbl.cell (p := ⟨b, off + j, none⟩) hb).trans (HC.out j (by rw [← HN.out]; exact hj))
        have hlen : (cellsOf xs).length = n * 1 := by simp [cellsOf, HN.out]
        have HSRC := Lib.hid hsrc; have HLEN := Lib.hid hlen
        clear hsrc hlen
        go_wp2_with (at_builtin; refine wpList_append_own _ rfl (.tmp 77) (.tmp 78) _ rfl wc.heap.size 22 i0 (.int .u64 0) 1 8 Try.underlying29 hi hz0 hz1 hz2 rfl (by decide) _ _ _ rfl hown0 ⟨b, off, none⟩ n cap (cellsOf xs) rfl HLEN.out HSRC.out (cellsOf_oneCell xs) (by unfold maxLen; omega) (by omega) (by simp; omega) ?_)
        intro v1 w1 hown1 hg1 _
        have hb1 : Below wc.heap.size wc w1 := (hbl.alloc hsz _).grown hg1 (by simp; omega) (fun k hk => ((hown0.lt k hk).1))
        have hsz1 := hb1.size
        have hsrc2 : ∀ (j : Nat) (u : Value), [Value.int .u64 m][j]? = some u → (w1.alloc (.cells #[.int .u64 m] 22)).cell? ((⟨w1.heap.size, 0, none⟩ : Addr).add j) = some u := by
          intro j u hu
          rcases j with _ | j
          · simp only [List.getElem?_cons_zero, Option.some.injEq] at hu
            subst hu
            rw [add_plain]; simp [go_sem]
          · simp at hu
        have HSRC2 := Lib.hid hsrc2; have HB1 := Lib.hid hb1
        clear hsrc2 hg1 hown0 hb1 hbl
        go_wp2_with (at_builtin; refine wpList_append_own _ rfl (.tmp 79) (.tmp 81) _ rfl wc.heap.size 22 i0 (.int .u64 0) 1 8 Try.underlying29 hi hz0 hz1 hz2 rfl (by decide) _ _ _ rfl (hown1.alloc _) ⟨w1.heap.size, 0, none⟩ 1 1 [.int .u64 m] rfl rfl HSRC2.out (by intro u hu; rw [List.mem_singleton] at hu; subst hu; rfl) (by unfold maxLen; omega) (by omega) (by simp; omega) ?_)
        intro v2 w2 hown2 hg2 _
        have hb2 : Below wc.heap.size wc w2 := (HB1.out.alloc hsz1 _).grown hg2 (by simp; omega) (fun k hk => ((hown1.lt k hk).1))
        have hown3 : w2.ownsRow wc.heap.size 22 1 v2 (n + 1) (cellsOf (xs ++ [m])) := by simpa [cellsOf] using hown2
        obtain ⟨A2, cap2, rfl, _, hlies2⟩ := own_lies hown3
        have K8 := Lib.hid (K6.out A2 cap2 w2 hlies2)
        have HB2 := Lib.hid hb2
        clear hlies2 hown3 hown2 hown1 hg2 hb2
        go_upto_region 15 with ((with_reducible refine K8.out.mono ?_); rintro e w' ⟨rfl, rfl⟩)
        have F := HF.out
        rcases F with ⟨rfl, rfl, rfl, rfl, rfl⟩ | ⟨rfl, rfl, rfl | ⟨rfl, rfl⟩ | ⟨rfl, rfl, rfl⟩⟩
        all_goals
          go_wp2_with (go_at_call 11; refine (awake_any _).mono ?_; rintro e w' ⟨rfl, rfl⟩)
          go_ret
          exact ⟨rfl, HB2.out.alloc HB2.out.size _⟩
      · have e : ((q + 1 : Nat) : Int) - 1 = q := by omega
        rw [e]
        have hcell := (hbl.cell (p := ⟨b, off + q, none⟩) hb).trans (HC.out q (by omega))
        have hdr := drop_succ_rev xs q (by rw [HN.out]; omega)
        have HD := Lib.hid hdr; clear hdr
        generalize xs.getD q 0 = xq at hcell HD
        go_wp2_with (at_builtin; refine wpList_append_own _ rfl (.tmp 64) (.tmp 69) _ rfl wc.heap.size 22 i0 (.int .u64 0) 1 8 Try.underlying29 hi hz0 hz1 hz2 rfl (by decide) _ _ _ rfl (hown.alloc _) ⟨wr.heap.size, 0, none⟩ 1 1 [.int .u64 xq] rfl rfl ?c1 ?c2 ?c3 ?c4 ?c5 ?_)
        case c1 =>
          intro j u hu
          rcases j with _ | j
          · simp only [List.getElem?_cons_zero, Option.some.injEq] at hu
            subst hu
            rw [add_plain]; simp [go_sem]
          · simp at hu
        case c2 => intro u hu; rw [List.mem_singleton] at hu; subst hu; rfl
        case c3 => unfold maxLen; omega
        case c4 => omega
        case c5 => have := hbl.size; simp; omega
        intro v' w1 hown1 hg1 _
        have hnb : Below wc.heap.size wc w1 := (hbl.alloc hbl.size _).grown hg1 (by have := hbl.size; simp; omega) (fun k hk => ((hown.lt k hk).1))
        have hown2 : w1.ownsRow wc.heap.size 22 1 v' (n - q) (cellsOf (xs.drop q).reverse) := by
          rw [HD.out, show n - q = n - (q + 1) + 1 by omega]
          simpa [cellsOf] using hown1
        have HO := Lib.hid hown2; have HB := Lib.hid hnb
        clear hown hbl hcell hown1 hg1 hown2 hnb
        go_wp2
        go_roundw
        case rel => exact ⟨q, by omega, rfl, HO.out, HB.out⟩
        case measure => simp [intOf]
end Go.Proofs.Ytmpbijdgmmjnoaa
