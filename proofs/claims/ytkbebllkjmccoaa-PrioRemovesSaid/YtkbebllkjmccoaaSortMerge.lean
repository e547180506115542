/- slices.symMergeCmpFunc over a row of orders. Conditions: the row lies in a block of its own, apart from the queue; both parts stand in order; at most a million orders. -/
import Derived.Test.YtkbebllkjmccoaaSortSym
namespace Go.Proofs.Ytkbebllkjmccoaa
open Go.RowKit Go.WideShapes

theorem not_both {p q : Prop} [Decidable p] [Decidable q] (h : (decide p && decide q) = false) : ¬ p ∨ ¬ q := by
  by_cases h1 : p
  · right; intro h2; rw [decide_eq_true h1, decide_eq_true h2] at h; cases h
  · exact Or.inl h1
set_option maxRecDepth 100000 in
set_option maxHeartbeats 4000000 in
theorem sym_main {F0 : Nat → Prop} {w0 w : World} {g n cap : Nat} {D : Ords} {R : HP} [hR : Stable R] {qb : Nat} {C : Array Value} {ts : TypeId} {up : Bool} (a m b : Nat) (hC : C[0]? = some (.bool up)) (h : Turns F0 w0 w (star (RowN 28 5 (.slice (some ⟨g, 0, none⟩) n cap) n (cellsO D)) (star (Blk qb C ts) R))) (hD : D.length = n) (hn : n ≤ 1000000) (hb : b ≤ n) (ham : a + 1 < m) (hmb : m + 1 < b) (hl : SegS (aheadO up) D a m) (hr : SegS (aheadO up) D m b)
    (IH : ∀ (w : World) (D : Ords) (a' m' b' : Nat), b' - a' < b - a → a' < m' → m' < b' → Turns F0 w0 w (star (RowN 28 5 (.slice (some ⟨g, 0, none⟩) n cap) n (cellsO D)) (star (Blk qb C ts) R)) → D.length = n → b' ≤ n → SegS (aheadO up) D a' m' → SegS (aheadO up) D m' b' → Calls Try.prog 41 #[.slice (some ⟨g, 0, none⟩) n cap, .int .i64 a', .int .i64 m', .int .i64 b', (.func (.func 28) #[.pointer (some ⟨qb, 0, none⟩)] #[])] w fun e w' => e = .returned (.tuple #[]) ∧ ∃ E, SubR D E a' b' ∧ SegS (aheadO up) E a' b' ∧ Turns F0 w0 w' (star (RowN 28 5 (.slice (some ⟨g, 0, none⟩) n cap) n (cellsO E)) (star (Blk qb C ts) R))) :
    Calls Try.prog 41 #[.slice (some ⟨g, 0, none⟩) n cap, .int .i64 a, .int .i64 m, .int .i64 b, (.func (.func 28) #[.pointer (some ⟨qb, 0, none⟩)] #[])] w fun e w' => e = .returned (.tuple #[]) ∧ ∃ E, SubR D E a b ∧ SegS (aheadO up) E a b ∧ Turns F0 w0 w' (star (RowN 28 5 (.slice (some ⟨g, 0, none⟩) n cap) n (cellsO E)) (star (Blk qb C ts) R)) := by
  obtain ⟨mid, hmid⟩ : ∃ mid, mid = (a + b) / 2 := ⟨_, rfl⟩
  obtain ⟨lo, hlo⟩ : ∃ lo, lo = if mid < m then mid + m - b else a := ⟨_, rfl⟩
  obtain ⟨hi, hhi⟩ : ∃ hi, hi = if mid < m then mid else m := ⟨_, rfl⟩
  have HH := Lib.hid (fun (E : Ords) (s : Nat) (hs1 : lo ≤ s) (hs2 : s ≤ hi) hb1 hb2 hrot => halves_of (lt := aheadO up) (E := E) (s := s) (ahead_ord up) hl hr (by omega) (by omega) hmid hlo hhi hs1 hs2 hb1 hb2 hrot)
  have HLH := Lib.hid (show lo ≤ hi ∧ a ≤ lo ∧ hi ≤ mid ∧ hi ≤ m ∧ mid + m - lo ≤ b by
    subst hlo; subst hhi
    split <;> omega)
  have HIH := Lib.hid IH
  have H := Lib.hid h
  have HD := Lib.hid hD
  have HB := Lib.hid hb
  have HC := Lib.hid hC
  have HAM := Lib.hid ham; have HMB := Lib.hid hmb; have HMID := Lib.hid hmid; have HLO := Lib.hid hlo; have HHI := Lib.hid hhi
  have ca : (((m : Int) - (a : Int)) == 1) = false := by simp; omega
  have cb : (((b : Int) - (m : Int)) == 1) = false := by simp; omega
  have w1 : IntKind.i64.wrap ((m : Int) - (a : Int)) = (m : Int) - (a : Int) := IntWalk.i64_in _ (by omega)
  have w2 : IntKind.i64.wrap ((b : Int) - (m : Int)) = (b : Int) - (m : Int) := IntWalk.i64_in _ (by omega)
  have w3 : IntKind.i64.wrap ((a : Int) + (b : Int)) = (a : Int) + (b : Int) := IntWalk.i64_in _ (by omega)
  have w4 : ((a : Int) + (b : Int)) / 2 = (mid : Int) := by omega
  obtain ⟨N, hN⟩ : ∃ N, mid + m = N := ⟨_, rfl⟩
  have w5 : ((mid : Int) + (m : Int)) = (N : Int) := by omega
  have w6 : IntKind.i64.wrap (N : Int) = (N : Int) := IntWalk.i64_in _ (by omega)
  have HN := Lib.hid hN
  have w3u : IntKind.u64.wrap ((a : Int) + (b : Int)) = (a : Int) + (b : Int) := IntWalk.u64_in _ (by omega)
  have w4b : IntKind.i64.wrap (mid : Int) = (mid : Int) := IntWalk.i64_in _ (by omega)
  clear h hD hC hl hr IH hmid hlo hhi hN
  go_enter Try.func41, Try.ntmps41
  go_upto_if 140 with fail
  go_cut [20, 21] (fun sv rv wx => sv = .int .i64 lo ∧ rv = .int .i64 hi ∧ Turns F0 w0 wx (star (RowN 28 5 (.slice (some ⟨g, 0, none⟩) n cap) n (cellsO D)) (star (Blk qb C ts) R)))
  case first =>
    as_aux_lemma =>
      by_cases hmm : mid < m
      · have b1 : (mid : Int) < (m : Int) := by omega
        have e1 : ((N : Int) - (b : Int)) = (lo : Int) := by
          have h1 := HLO.out
          rw [if_pos hmm] at h1
          have := HN.out; have := HAM.out; have := HMB.out; have := HMID.out
          omega
        have e2 : IntKind.i64.wrap (lo : Int) = (lo : Int) := IntWalk.i64_in _ (by have := HLH.out; have := HB.out; omega)
        have e3 : hi = mid := by have h1 := HHI.out; rw [if_pos hmm] at h1; exact h1
        have E3 := Lib.hid e3
        clear ca cb w1 w2 w3 w4 w5 e3
        go_wp2_with fail
        go_meet
        exact ⟨rfl, by rw [E3.out], H.out⟩
      · have b1 : ¬ (mid : Int) < (m : Int) := by omega
        have E2 := Lib.hid (show lo = a by have h1 := HLO.out; rw [if_neg hmm] at h1; exact h1)
        have E3 := Lib.hid (show hi = m by have h1 := HHI.out; rw [if_neg hmm] at h1; exact h1)
        clear ca cb w1 w2 w3 w4 w5
        go_wp2_with fail
        go_meet
        exact ⟨by rw [E2.out], by rw [E3.out], H.out⟩
  case rest =>
    obtain ⟨rfl, rfl, ht⟩ := hcut
    have HT := Lib.hid ht
    obtain ⟨p, hp⟩ : ∃ p, N - 1 = p := ⟨_, rfl⟩
    have w7 : ((N : Int) - 1) = (p : Int) := by have := HN.out; have := HAM.out; omega
    have w8 : IntKind.i64.wrap (p : Int) = (p : Int) := IntWalk.i64_in _ (by have := HN.out; have := HB.out; have := HMID.out; have := HMB.out; have := HAM.out; omega)
    have HP := Lib.hid hp
    clear ht ca cb w1 w2 w3 w4 w5 w6 H hp
    go_upto_block 8 with fail
    clear w7 w8
    go_cut [20] (fun sv wx => ∃ s : Nat, sv = .int .i64 s ∧ lo ≤ s ∧ s ≤ hi ∧ (s = lo ∨ aheadO up (atL D (p - (s - 1))) (atL D (s - 1)) = false) ∧ (s = hi ∨ aheadO up (atL D (p - s)) (atL D s) = true) ∧ Turns F0 w0 wx (star (RowN 28 5 (.slice (some ⟨g, 0, none⟩) n cap) n (cellsO D)) (star (Blk qb C ts) R)))
    case first =>
      as_aux_lemma =>
        go_wp2_with fail
        go_loopw [20, 21] (fun iv jv wr => ∃ i j : Nat, iv = .int .i64 i ∧ jv = .int .i64 j ∧ lo ≤ i ∧ i ≤ j ∧ j ≤ hi ∧ (i = lo ∨ aheadO up (atL D (p - (i - 1))) (atL D (i - 1)) = false) ∧ (j = hi ∨ aheadO up (atL D (p - j)) (atL D j) = true) ∧ Turns F0 w0 wr (star (RowN 28 5 (.slice (some ⟨g, 0, none⟩) n cap) n (cellsO D)) (star (Blk qb C ts) R))) (fun iv jv _ => (intOf jv).toNat - (intOf iv).toNat)
        case atStart => exact ⟨lo, hi, rfl, rfl, Nat.le_refl _, HLH.out.1, Nat.le_refl _, Or.inl rfl, Or.inl rfl, HT.out⟩
        case round =>
          obtain ⟨i, j, rfl, rfl, hmi, hij, hjb, h1, h2, ht⟩ := hrel
          clear HT
          obtain ⟨l1, l2, l3, l4, l5⟩ := HLH.out
          have hN := HN.out; have hP := HP.out; have hAM := HAM.out; have hMB := HMB.out; have hMID := HMID.out
          by_cases hlt : i < j
          · have b1 : (i : Int) < (j : Int) := by omega
            have c1 : IntKind.i64.wrap ((i : Int) + (j : Int)) = (i : Int) + (j : Int) := IntWalk.i64_in _ (by omega)
            obtain ⟨h, hh⟩ : ∃ h, (i + j) / 2 = h := ⟨_, rfl⟩
            have c2 : ((i : Int) + (j : Int)) / 2 = (h : Int) := by omega
            have c3 : IntKind.i64.wrap ((h : Int) + 1) = (h : Int) + 1 := IntWalk.i64_in _ (by omega)
            obtain ⟨q, hq⟩ : ∃ q, p - h = q := ⟨_, rfl⟩
            have c4 : ((p : Int) - (h : Int)) = (q : Int) := by omega
            have c5 : IntKind.i64.wrap (q : Int) = (q : Int) := IntWalk.i64_in _ (by omega)
            have HQ := Lib.hid hq
            have hih : i ≤ h := by omega
            have hhj : h < j := by omega
            have HIH2 := Lib.hid hih; have HHJ := Lib.hid hhj
            have i1 : (q : Int) < (n : Int) := by omega
            have i2 : (h : Int) < (n : Int) := by omega
            have hql : q < D.length := by rw [HD.out]; omega
            have hhl : h < D.length := by rw [HD.out]; omega
            have HI := Lib.hid h1; have HJ := Lib.hid h2
            clear h1 h2 hh hq hN hP hAM hMB hMID l1 l2 l3 l4 l5
            obtain ⟨⟨x1, x2, x3, x4, x5⟩, hx⟩ : ∃ x, D[q] = x := ⟨_, rfl⟩
            obtain ⟨⟨y1, y2, y3, y4, y5⟩, hy⟩ : ∃ y, D[h] = y := ⟨_, rfl⟩
            have HF := Lib.hid (fun (w' : World) (h : Turns F0 w0 w' (star (RowN 28 5 (.slice (some ⟨g, 0, none⟩) n cap) n (cellsO D)) (star (Blk qb C ts) R))) => two_cells hql hhl hx hy h)
            simp only at HF
            have K := compare_turns ⟨x1, x2, x3, x4, x5⟩ ⟨y1, y2, y3, y4, y5⟩ HC.out ht.drew
            obtain ⟨av, hav⟩ : ∃ v, aheadO up ⟨x1, x2, x3, x4, x5⟩ ⟨y1, y2, y3, y4, y5⟩ = v := ⟨_, rfl⟩
            rw [hav] at K
            unfold OrdV.val at K
            have HK := Lib.hid K
            have e0 := HF.out _ ht.drew
            have hav2 : aheadO up (atL D q) (atL D h) = av := by rw [atL_eq hql, atL_eq hhl, hx, hy, hav]
            have HAV := Lib.hid hav2; have HT := Lib.hid ht
            clear ht hx hy K hav hav2 hql hhl
            go_upto_region 35 with fail
            go_region_held3 (fun w' : World => (w'.cell? ⟨g, q * 5, none⟩ = some (.int .i64 x1) ∧ w'.cell? ⟨g, q * 5 + 1, none⟩ = some (.int .i64 x2) ∧ w'.cell? ⟨g, q * 5 + 2, none⟩ = some (.bool x3) ∧ w'.cell? ⟨g, q * 5 + 3, none⟩ = some (.int .u64 x4) ∧ w'.cell? ⟨g, q * 5 + 4, none⟩ = some (.int .u64 x5) ∧ w'.cell? ⟨g, h * 5, none⟩ = some (.int .i64 y1) ∧ w'.cell? ⟨g, h * 5 + 1, none⟩ = some (.int .i64 y2) ∧ w'.cell? ⟨g, h * 5 + 2, none⟩ = some (.bool y3) ∧ w'.cell? ⟨g, h * 5 + 3, none⟩ = some (.int .u64 y4) ∧ w'.cell? ⟨g, h * 5 + 4, none⟩ = some (.int .u64 y5))) (first | exact e1 | exact e0) (first
              | (go_at_call 28; refine HK.out.mono ?_; rintro e w10 ⟨c, rfl, hc, ht10⟩; have e1 := HF.out _ ht10; have H10 := Lib.hid ht10; clear ht10))
            all_goals
              rcases av with _ | _
              · go_wp2_with fail
                go_roundw
                case rel => exact ⟨h + 1, j, by first | rfl | simp, rfl, by have := HIH2.out; omega, HHJ.out, hjb, Or.inr (by rw [Nat.add_sub_cancel, HQ.out]; exact HAV.out), HJ.out, H10.out⟩
                case measure => have := HHJ.out; have := HIH2.out; simp [intOf]; omega
              · go_wp2_with fail
                go_roundw
                case rel => exact ⟨i, h, rfl, rfl, hmi, HIH2.out, by have := HHJ.out; omega, HI.out, Or.inr (by rw [HQ.out]; exact HAV.out), H10.out⟩
                case measure => have := HHJ.out; have := HIH2.out; simp [intOf]; omega
          · have b1 : ¬ (i : Int) < (j : Int) := by omega
            obtain rfl : i = j := by omega
            have HT := Lib.hid ht; have HI := Lib.hid h1; have HJ := Lib.hid h2
            clear ht h1 h2 hN hP hAM hMB hMID l1 l2 l3 l4 l5
            go_wp2_with fail
            go_meet
            exact ⟨i, rfl, hmi, hjb, HI.out, HJ.out, HT.out⟩
    case rest =>
      as_aux_lemma =>
        obtain ⟨s, rfl, hs1, hs2, h1, h2, ht⟩ := hcut
        obtain ⟨l1, l2, l3, l4, l5⟩ := HLH.out
        have hN := HN.out; have hP := HP.out; have hAM := HAM.out; have hMB := HMB.out; have hMID := HMID.out
        obtain ⟨e, he⟩ : ∃ e, N - s = e := ⟨_, rfl⟩
        have c1 : ((N : Int) - (s : Int)) = (e : Int) := by omega
        have c2 : IntKind.i64.wrap (e : Int) = (e : Int) := IntWalk.i64_in _ (by omega)
        rw [← hP, ← hN] at h1 h2
        have HH2 := Lib.hid (fun (E : Ords) (hrot : RotR D E s m e) => HH.out E s hs1 hs2 h1 h2 (by rw [hN, he]; exact hrot))
        have HE := Lib.hid (show mid + m - s = e ∧ s ≤ m ∧ m ≤ e ∧ a ≤ s ∧ s ≤ mid ∧ mid ≤ e ∧ e ≤ b by omega)
        clear HT
        have HT := Lib.hid ht
        clear hN hP hAM hMB hMID l1 l2 l3 l4 l5 h1 h2 ht he HLH HH HLO HHI
        go_upto_region 39 with fail
        clear c1 c2
        go_cut [185] (fun c wx => c = .bool (decide (s < m) && decide (m < e)) ∧ Turns F0 w0 wx (star (RowN 28 5 (.slice (some ⟨g, 0, none⟩) n cap) n (cellsO D)) (star (Blk qb C ts) R)))
        case first =>
          as_aux_lemma =>
            by_cases h1 : s < m
            · have b1 : (s : Int) < (m : Int) := by omega
              by_cases h2 : m < e
              · have b2 : (m : Int) < (e : Int) := by omega
                go_wp2_with fail
                go_meet
                exact ⟨by simp [h1, h2], HT.out⟩
              · have b2 : ¬ (m : Int) < (e : Int) := by omega
                go_wp2_with fail
                go_meet
                exact ⟨by simp [h1, h2], HT.out⟩
            · have b1 : ¬ (s : Int) < (m : Int) := by omega
              go_wp2_with fail
              go_meet
              exact ⟨by simp [h1], HT.out⟩
        case rest =>
          obtain ⟨rfl, ht⟩ := hcut
          clear HT
          have HT := Lib.hid ht
          clear ht
          obtain ⟨c, hc⟩ : ∃ c, (decide (s < m) && decide (m < e)) = c := ⟨_, rfl⟩
          rw [hc]
          have HCC := Lib.hid hc
          clear hc
          go_upto_if 185 with fail
          go_cut [185] (fun _ wx => ∃ E, RotR D E s m e ∧ Turns F0 w0 wx (star (RowN 28 5 (.slice (some ⟨g, 0, none⟩) n cap) n (cellsO E)) (star (Blk qb C ts) R)))
          case first =>
            as_aux_lemma =>
              cases c
              · have hr : RotR D D s m e := RotR.none D (by
                  have := HCC.out
                  have := HE.out
                  rcases not_both HCC.out with h1 | h1 <;> omega) HE.out.2.1 HE.out.2.2.1
                have HR := Lib.hid hr
                clear hr
                go_wp2_with fail
                go_meet
                exact ⟨D, HR.out, HT.out⟩
              · have hc := HCC.out
                simp only [Bool.and_eq_true, decide_eq_true_eq] at hc
                have K := Lib.hid (rotate_any s m e (.func (.func 28) #[.pointer (some ⟨qb, 0, none⟩)] #[]) HT.out HD.out hn hc.1 hc.2 (by have := HE.out; have := HB.out; omega))
                clear hc
                go_wp2_with fail
                refine K.out.mono ?_
                rintro e' w2 ⟨rfl, E, hr, ht⟩
                have HR := Lib.hid hr; have HT2 := Lib.hid ht
                clear hr ht
                go_wp2_with fail
                go_meet
                exact ⟨E, HR.out, HT2.out⟩
          case rest =>
            as_aux_lemma =>
              obtain ⟨E, hrot, ht⟩ := hcut
              obtain ⟨g1, g2, g3, g4, g5, g6, g7⟩ := HE.out
              obtain ⟨hv, _⟩ := HH2.out E hrot
              rw [g1] at hv
              have HV := Lib.hid hv
              have HSR := Lib.hid (hrot.sub g2 g3)
              have HEL := Lib.hid (show E.length = n by rw [(hrot.sub g2 g3).length, HD.out])
              clear HT
              have HT := Lib.hid ht
              clear hrot ht hv g1 g2 g3 g4 g5 g6 g7 HH2 HCC
              go_upto_region 41 with fail
              go_cut [199] (fun c wx => c = .bool (decide (a < s) && decide (s < mid)) ∧ Turns F0 w0 wx (star (RowN 28 5 (.slice (some ⟨g, 0, none⟩) n cap) n (cellsO E)) (star (Blk qb C ts) R)))
              case first =>
                as_aux_lemma =>
                  by_cases h1 : a < s
                  · have b1 : (a : Int) < (s : Int) := by omega
                    by_cases h2 : s < mid
                    · have b2 : (s : Int) < (mid : Int) := by omega
                      go_wp2_with fail
                      go_meet
                      exact ⟨by simp [h1, h2], HT.out⟩
                    · have b2 : ¬ (s : Int) < (mid : Int) := by omega
                      go_wp2_with fail
                      go_meet
                      exact ⟨by simp [h1, h2], HT.out⟩
                  · have b1 : ¬ (a : Int) < (s : Int) := by omega
                    go_wp2_with fail
                    go_meet
                    exact ⟨by simp [h1], HT.out⟩
              case rest =>
                obtain ⟨rfl, ht⟩ := hcut
                clear HT
                have HT := Lib.hid ht
                clear ht
                obtain ⟨c, hc⟩ : ∃ c, (decide (a < s) && decide (s < mid)) = c := ⟨_, rfl⟩
                rw [hc]
                have HCC := Lib.hid hc
                clear hc
                go_upto_if 199 with fail
                go_cut [199] (fun _ wx => ∃ G, SubR E G a mid ∧ SegS (aheadO up) G a mid ∧ Turns F0 w0 wx (star (RowN 28 5 (.slice (some ⟨g, 0, none⟩) n cap) n (cellsO G)) (star (Blk qb C ts) R)))
                case first =>
                  as_aux_lemma =>
                    rcases c with _ | _
                    · have hr : SegS (aheadO up) E a mid := by
                        have hv := HV.out
                        have := HE.out
                        rcases not_both HCC.out with h1 | h1
                        · have : s = a := by omega
                          rw [this] at hv; exact hv.p2
                        · have : s = mid := by omega
                          rw [this] at hv
                          have h1 := hv.p1
                          exact h1
                      have HR := Lib.hid hr
                      clear hr
                      go_wp2_with fail
                      go_meet
                      exact ⟨E, SubR.refl _ _ _, HR.out, HT.out⟩
                    · have hc := HCC.out
                      simp only [Bool.and_eq_true, decide_eq_true_eq] at hc
                      have hv := HV.out
                      have K := Lib.hid (HIH.out _ E a s mid (by have := HMID.out; omega) hc.1 hc.2 HT.out HEL.out (by have := HMID.out; have := HB.out; omega) hv.p1 hv.p2)
                      clear hc hv
                      go_wp2_with fail
                      refine K.out.mono ?_
                      rintro e' w2 ⟨rfl, G, hr, hs, ht⟩
                      have HR := Lib.hid hr; have HS := Lib.hid hs; have HT2 := Lib.hid ht
                      clear hr hs ht
                      go_wp2_with fail
                      go_meet
                      exact ⟨G, HR.out, HS.out, HT2.out⟩
                case rest =>
                  as_aux_lemma =>
                    obtain ⟨G, hsub, hseg, ht⟩ := hcut
                    clear HT
                    have HG := Lib.hid hsub; have HGS := Lib.hid hseg; have HT := Lib.hid ht
                    have HGL := Lib.hid (show G.length = n by rw [hsub.length, HEL.out])
                    clear hsub hseg ht HCC
                    have HFIN := Lib.hid (show ∀ (X : Ords), SubR G X mid b → SegS (aheadO up) X mid b → SubR D X a b ∧ SegS (aheadO up) X a b from fun X h1 h2 => by
                      obtain ⟨g1, g2, g3, g4, g5, g6, g7⟩ := HE.out
                      exact ⟨((HSR.out.mono g4 g7).trans (HG.out.mono (Nat.le_refl _) (by omega))).trans (h1.mono (by omega) (Nat.le_refl _)), HV.out.done HG.out HGS.out h1 h2⟩)
                    have p3 := HV.out.p3.same (E := G) fun k x y => HG.out.out k (by omega)
                    have p4 := HV.out.p4.same (E := G) fun k x y => HG.out.out k (by have := HE.out; omega)
                    have HP3 := Lib.hid p3; have HP4 := Lib.hid p4
                    clear p3 p4
                    by_cases h1 : mid < e
                    · have b1 : (mid : Int) < (e : Int) := by omega
                      by_cases h2 : e < b
                      · have b2 : (e : Int) < (b : Int) := by omega
                        have K := Lib.hid (HIH.out _ G mid e b (by have := HMID.out; omega) h1 h2 HT.out HGL.out HB.out HP3.out HP4.out)
                        go_wp2_with fail
                        refine K.out.mono ?_
                        rintro e' w2 ⟨rfl, X, hr, hs, ht⟩
                        have HX := Lib.hid (HFIN.out X hr hs); have HT2 := Lib.hid ht
                        clear hr hs ht
                        go_wp2_with fail
                        go_end0
                        exact ⟨rfl, X, HX.out.1, HX.out.2, HT2.out⟩
                      · have b2 : ¬ (e : Int) < (b : Int) := by omega
                        have HX := Lib.hid (HFIN.out G (SubR.refl _ _ _) (by
                          have : e = b := by have := HE.out; omega
                          rw [← this]; exact HP3.out))
                        go_wp2_with fail
                        go_end0
                        exact ⟨rfl, G, HX.out.1, HX.out.2, HT.out⟩
                    · have b1 : ¬ (mid : Int) < (e : Int) := by omega
                      have HX := Lib.hid (HFIN.out G (SubR.refl _ _ _) (by
                        have h4 := HP4.out
                        have : e = mid := by have := HE.out; omega
                        rw [this] at h4; exact h4))
                      go_wp2_with fail
                      go_end0
                      exact ⟨rfl, G, HX.out.1, HX.out.2, HT.out⟩

/-- The whole of it. -/
theorem sym_any {F0 : Nat → Prop} {w0 : World} {g n cap : Nat} {R : HP} [hR : Stable R] {qb : Nat} {C : Array Value} {ts : TypeId} {up : Bool} (hC : C[0]? = some (.bool up)) (hn : n ≤ 1000000) : ∀ (k : Nat) (w : World) (D : Ords) (a m b : Nat), b - a ≤ k → a < m → m < b → Turns F0 w0 w (star (RowN 28 5 (.slice (some ⟨g, 0, none⟩) n cap) n (cellsO D)) (star (Blk qb C ts) R)) → D.length = n → b ≤ n → SegS (aheadO up) D a m → SegS (aheadO up) D m b → Calls Try.prog 41 #[.slice (some ⟨g, 0, none⟩) n cap, .int .i64 a, .int .i64 m, .int .i64 b, (.func (.func 28) #[.pointer (some ⟨qb, 0, none⟩)] #[])] w fun e w' => e = .returned (.tuple #[]) ∧ ∃ E, SubR D E a b ∧ SegS (aheadO up) E a b ∧ Turns F0 w0 w' (star (RowN 28 5 (.slice (some ⟨g, 0, none⟩) n cap) n (cellsO E)) (star (Blk qb C ts) R))
  | 0, _, _, _, _, _, h, h1, h2, _, _, _, _, _ => by omega
  | k + 1, w, D, a, m, b, h, h1, h2, ht, hD, hb, hl, hr => by
    by_cases e1 : m = a + 1
    · exact sym_left a m b hC ht hD hn hb e1 (by omega) hr
    · by_cases e2 : b = m + 1
      · exact sym_right a m b hC ht hD hn hb (by omega) e2 hl
      · exact sym_main a m b hC ht hD hn hb (by omega) (by omega) hl hr (fun w' D' a' m' b' hlt x1 x2 x3 x4 x5 x6 x7 => sym_any hC hn k w' D' a' m' b' (by omega) x1 x2 x3 x4 x5 x6 x7)
end Go.Proofs.Ytkbebllkjmccoaa
