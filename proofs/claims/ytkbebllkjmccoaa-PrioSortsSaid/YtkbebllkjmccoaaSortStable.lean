/- slices.stableCmpFunc and SortStableFunc over a row of orders, by prio's comparison: the row stands in order behind it. Conditions: the row lies in a block of its own, apart from the queue; at most a million orders. -/
import Derived.Test.YtkbebllkjmccoaaSortMerge
namespace Go.Proofs.Ytkbebllkjmccoaa
open Go.RowKit Go.WideShapes

set_option maxRecDepth 100000 in
set_option maxHeartbeats 4000000 in
theorem stable_any {F0 : Nat → Prop} {w0 w : World} {g n cap : Nat} {D : Ords} {R : HP} [hR : Stable R] {qb : Nat} {C : Array Value} {ts : TypeId} {up : Bool} (hC : C[0]? = some (.bool up)) (h : Turns F0 w0 w (star (RowN 28 5 (.slice (some ⟨g, 0, none⟩) n cap) n (cellsO D)) (star (Blk qb C ts) R))) (hD : D.length = n) (hn : n ≤ 1000000) :
    Calls Try.prog 33 #[.slice (some ⟨g, 0, none⟩) n cap, .int .i64 n, (.func (.func 28) #[.pointer (some ⟨qb, 0, none⟩)] #[])] w fun e w' => e = .returned (.tuple #[]) ∧ ∃ E, SubR D E 0 n ∧ SegS (aheadO up) E 0 n ∧ Turns F0 w0 w' (star (RowN 28 5 (.slice (some ⟨g, 0, none⟩) n cap) n (cellsO E)) (star (Blk qb C ts) R)) := by
  have H := Lib.hid h
  have HD := Lib.hid hD
  have HC := Lib.hid hC
  clear h hD hC
  go_enter Try.func33, Try.ntmps33
  go_upto_block 0 with fail
  go_cut [7, 8] (fun av bv wx => ∃ (q : Nat) (E : Ords), av = .int .i64 ((q * 20 : Nat) : Int) ∧ q * 20 ≤ n ∧ n < q * 20 + 20 ∧ SubR D E 0 n ∧ Blks (aheadO up) E 20 0 (q * 20) ∧ Turns F0 w0 wx (star (RowN 28 5 (.slice (some ⟨g, 0, none⟩) n cap) n (cellsO E)) (star (Blk qb C ts) R)))
  case first =>
    go_wp2_with fail
    go_loopw [7, 8] (fun av bv wr => ∃ (q a : Nat) (E : Ords), q * 20 = a ∧ av = .int .i64 (a : Int) ∧ bv = .int .i64 ((a : Int) + 20) ∧ a ≤ n ∧ SubR D E 0 n ∧ Blks (aheadO up) E 20 0 a ∧ Turns F0 w0 wr (star (RowN 28 5 (.slice (some ⟨g, 0, none⟩) n cap) n (cellsO E)) (star (Blk qb C ts) R))) (fun av bv _ => n - (intOf av).toNat)
    case atStart => exact ⟨0, 0, D, rfl, rfl, rfl, Nat.zero_le _, SubR.refl _ _ _, Blks.nil _ _ _ _ (Nat.le_refl _), H.out⟩
    case round =>
      obtain ⟨q, a, E, hq, rfl, rfl, han, hsub, hbl, ht⟩ := hrel
      clear H
      by_cases hle : a + 20 ≤ n
      · have b1 : (a : Int) + 20 ≤ (n : Int) := by omega
        have c1 : IntKind.i64.wrap ((a : Int) + 20 + 20) = (a : Int) + 20 + 20 := IntWalk.i64_in _ (by omega)
        have K := insertion_any a (a + 20) HC.out ht (by rw [hsub.length, HD.out]) hn (by omega) hle
        rw [show ((a + 20 : Nat) : Int) = (a : Int) + 20 by omega] at K
        have HK := Lib.hid K
        have HN := Lib.hid (show ∀ G, SubR E G a (a + 20) → SegS (aheadO up) G a (a + 20) → SubR D G 0 n ∧ Blks (aheadO up) G 20 0 (a + 20) from fun G h1 h2 => ⟨hsub.trans (h1.mono (by omega) (by omega)), hbl.grow h1 h2 hq⟩)
        have HQ := Lib.hid hq
        clear K hsub hbl ht hq
        go_wp2_with fail
        refine HK.out.mono ?_
        rintro e w2 ⟨rfl, G, h1, h2, ht⟩
        have HG := Lib.hid (HN.out G h1 h2); have HT := Lib.hid ht
        clear h1 h2 ht
        go_wp2_with fail
        go_roundw
        case rel => exact ⟨q + 1, a + 20, G, by have := HQ.out; omega, by first | rfl | simp, by first | rfl | (congr 1; omega), hle, HG.out.1, HG.out.2, HT.out⟩
        case measure => simp [intOf]; omega
      · have b1 : ¬ (a : Int) + 20 ≤ (n : Int) := by omega
        have HS := Lib.hid hsub; have HB := Lib.hid hbl; have HT := Lib.hid ht; have HQ := Lib.hid hq
        clear hsub hbl ht hq
        go_wp2_with fail
        go_meet
        exact ⟨q, E, by rw [HQ.out], by have := HQ.out; omega, by have := HQ.out; omega, HS.out, by rw [HQ.out]; exact HB.out, HT.out⟩
  case rest =>
    obtain ⟨q, E, rfl, hq1, hq2, hsub, hbl, ht⟩ := hcut
    clear H
    have K := insertion_any (q * 20) n HC.out ht (by rw [hsub.length, HD.out]) hn hq1 (Nat.le_refl _)
    have HN := Lib.hid (show ∀ G, SubR E G (q * 20) n → SegS (aheadO up) G (q * 20) n → SubR D G 0 n ∧ Blks (aheadO up) G 20 0 n from fun G h1 h2 => ⟨hsub.trans (h1.mono (Nat.zero_le _) (Nat.le_refl _)), hbl.grow h1 h2 rfl⟩)
    obtain ⟨a, ha⟩ : ∃ a, q * 20 = a := ⟨_, rfl⟩
    rw [ha] at K HN
    rw [ha]
    have HK := Lib.hid K
    clear K hsub hbl ht ha hq1 hq2
    go_wp2_with fail
    refine HK.out.mono ?_
    rintro e w2 ⟨rfl, G, h1, h2, ht⟩
    have HG := Lib.hid (HN.out G h1 h2); have HT := Lib.hid ht
    clear h1 h2 ht HN HK
    go_wp2_with fail
    go_loopw [6] (fun sv wr => ∃ (s : Nat) (E : Ords), sv = .int .i64 (s : Int) ∧ 0 < s ∧ s ≤ 2 * n + 20 ∧ SubR D E 0 n ∧ Blks (aheadO up) E s 0 n ∧ Turns F0 w0 wr (star (RowN 28 5 (.slice (some ⟨g, 0, none⟩) n cap) n (cellsO E)) (star (Blk qb C ts) R))) (fun sv _ => n - (intOf sv).toNat)
    case atStart => exact ⟨20, G, rfl, by omega, by omega, HG.out.1, HG.out.2, HT.out⟩
    case round =>
      obtain ⟨s, E, rfl, hs0, hsn, hsub, hbl, ht⟩ := hrel
      clear HT HG
      have HSUB := Lib.hid hsub; have HBL := Lib.hid hbl; have HT := Lib.hid ht
      clear hsub hbl ht
      by_cases hlt : s < n
      · have b1 : (s : Int) < (n : Int) := by omega
        have c1 : IntKind.i64.wrap (2 * (s : Int)) = 2 * (s : Int) := IntWalk.i64_in _ (by omega)
        go_upto_block 4 with fail
        go_cut [7, 8] (fun av bv wx => ∃ (q a : Nat) (G : Ords), q * (2 * s) = a ∧ av = .int .i64 (a : Int) ∧ a ≤ n ∧ n < a + 2 * s ∧ SubR D G 0 n ∧ Blks (aheadO up) G (2 * s) 0 a ∧ Blks (aheadO up) G s a n ∧ Turns F0 w0 wx (star (RowN 28 5 (.slice (some ⟨g, 0, none⟩) n cap) n (cellsO G)) (star (Blk qb C ts) R)))
        case first =>
          go_wp2_with fail
          go_loopw [7, 8] (fun av bv wr => ∃ (q a : Nat) (G : Ords), q * (2 * s) = a ∧ av = .int .i64 (a : Int) ∧ bv = .int .i64 ((a : Int) + 2 * (s : Int)) ∧ a ≤ n ∧ SubR D G 0 n ∧ Blks (aheadO up) G (2 * s) 0 a ∧ Blks (aheadO up) G s a n ∧ Turns F0 w0 wr (star (RowN 28 5 (.slice (some ⟨g, 0, none⟩) n cap) n (cellsO G)) (star (Blk qb C ts) R))) (fun av bv _ => n - (intOf av).toNat)
          case atStart => exact ⟨0, 0, E, Nat.zero_mul _, rfl, by first | rfl | simp, Nat.zero_le _, HSUB.out, Blks.nil _ _ _ _ (Nat.le_refl _), HBL.out, HT.out⟩
          case round =>
            obtain ⟨q, a, G, hq, rfl, rfl, han, hsub, hb2, hb1, ht⟩ := hrel
            clear HT HSUB HBL
            by_cases hle : a + 2 * s ≤ n
            · have b2 : (a : Int) + 2 * (s : Int) ≤ (n : Int) := by omega
              have c2 : IntKind.i64.wrap ((a : Int) + (s : Int)) = (a : Int) + (s : Int) := IntWalk.i64_in _ (by omega)
              have c3 : IntKind.i64.wrap ((a : Int) + 2 * (s : Int) + 2 * (s : Int)) = (a : Int) + 2 * (s : Int) + 2 * (s : Int) := IntWalk.i64_in _ (by omega)
              have e1 : (2 * q) * s = a := by rw [← hq, Nat.mul_comm 2 q, Nat.mul_assoc]
              have e2 : (2 * q + 1) * s = a + s := by rw [Nat.add_mul, e1, Nat.one_mul]
              have e3 : (q + 1) * (2 * s) = a + 2 * s := by rw [Nat.add_mul, hq, Nat.one_mul]
              have K := sym_any HC.out hn (2 * s) _ G a (a + s) (a + 2 * s) (by omega) (by omega) (by omega) ht (by rw [hsub.length, HD.out]) hle (hb1.seg e1 (Nat.le_refl _) (Nat.le_refl _) (by omega)) (hb1.seg e2 (by omega) (by omega) hle)
              rw [show ((a + s : Nat) : Int) = (a : Int) + (s : Int) by omega, show ((a + 2 * s : Nat) : Int) = (a : Int) + 2 * (s : Int) by omega] at K
              have HK := Lib.hid K
              have HN := Lib.hid (show ∀ X, SubR G X a (a + 2 * s) → SegS (aheadO up) X a (a + 2 * s) → SubR D X 0 n ∧ Blks (aheadO up) X (2 * s) 0 (a + 2 * s) ∧ Blks (aheadO up) X s (a + 2 * s) n from fun X h1 h2 => ⟨hsub.trans (h1.mono (by omega) (by omega)), hb2.grow h1 h2 hq, hb1.keep h1 (by omega)⟩)
              have HQ := Lib.hid e3
              clear K hsub hb1 hb2 ht hq e1 e2 e3
              go_wp2_with fail
              refine HK.out.mono ?_
              rintro e w2 ⟨rfl, X, h1, h2, ht⟩
              have HG := Lib.hid (HN.out X h1 h2); have HT := Lib.hid ht
              clear h1 h2 ht
              go_wp2_with fail
              go_roundw
              case rel => exact ⟨q + 1, a + 2 * s, X, HQ.out, by first | rfl | (congr 1; omega), by first | rfl | (congr 1; omega), hle, HG.out.1, HG.out.2.1, HG.out.2.2, HT.out⟩
              case measure => simp [intOf]; omega
            · have b2 : ¬ (a : Int) + 2 * (s : Int) ≤ (n : Int) := by omega
              have HS := Lib.hid hsub; have HB1 := Lib.hid hb1; have HB2 := Lib.hid hb2; have HT := Lib.hid ht; have HQ := Lib.hid hq
              clear hsub hb1 hb2 ht hq
              go_wp2_with fail
              go_meet
              exact ⟨q, a, G, HQ.out, rfl, han, by omega, HS.out, HB2.out, HB1.out, HT.out⟩
        case rest =>
          obtain ⟨q, a, G, hq, rfl, han, hna, hsub, hb2, hb1, ht⟩ := hcut
          clear HT HSUB HBL
          have e1 : (2 * q) * s = a := by rw [← hq, Nat.mul_comm 2 q, Nat.mul_assoc]
          have e2 : (2 * q + 1) * s = a + s := by rw [Nat.add_mul, e1, Nat.one_mul]
          have c2 : IntKind.i64.wrap ((a : Int) + (s : Int)) = (a : Int) + (s : Int) := IntWalk.i64_in _ (by omega)
          have c3 : IntKind.i64.wrap ((s : Int) * 2) = (s : Int) * 2 := IntWalk.i64_in _ (by omega)
          have HN := Lib.hid (show ∀ X, SubR G X a n → SegS (aheadO up) X a n → SubR D X 0 n ∧ Blks (aheadO up) X (2 * s) 0 n from fun X h1 h2 => ⟨hsub.trans (h1.mono (by omega) (by omega)), hb2.grow h1 h2 hq⟩)
          by_cases hm : a + s < n
          · have b2 : (a : Int) + (s : Int) < (n : Int) := by omega
            have K := sym_any HC.out hn (2 * s) _ G a (a + s) n (by omega) (by omega) hm ht (by rw [hsub.length, HD.out]) (Nat.le_refl _) (hb1.seg e1 (Nat.le_refl _) (Nat.le_refl _) (by omega)) (hb1.seg e2 (by omega) (by omega) (Nat.le_refl _))
            rw [show ((a + s : Nat) : Int) = (a : Int) + (s : Int) by omega] at K
            have HK := Lib.hid K
            clear K hsub hb1 hb2 ht hq e1 e2
            go_wp2_with fail
            refine HK.out.mono ?_
            rintro e w2 ⟨rfl, X, h1, h2, ht⟩
            have HG := Lib.hid (HN.out X h1 h2); have HT := Lib.hid ht
            clear h1 h2 ht
            go_wp2_with fail
            go_roundw
            case rel => exact ⟨2 * s, X, by first | rfl | (congr 1; omega), by omega, by omega, HG.out.1, HG.out.2, HT.out⟩
            case measure => simp [intOf]; omega
          · have b2 : ¬ (a : Int) + (s : Int) < (n : Int) := by omega
            have HG := Lib.hid (HN.out G (SubR.refl _ _ _) (hb1.seg e1 (Nat.le_refl _) (by omega) (Nat.le_refl _)))
            have HT := Lib.hid ht
            clear hsub hb1 hb2 ht hq e1 e2
            go_wp2_with fail
            go_roundw
            case rel => exact ⟨2 * s, G, by first | rfl | (congr 1; omega), by omega, by omega, HG.out.1, HG.out.2, HT.out⟩
            case measure => simp [intOf]; omega
      · have b1 : ¬ (s : Int) < (n : Int) := by omega
        have HSEG := Lib.hid (HBL.out.all (by omega))
        go_wp2_with fail
        go_end0
        exact ⟨rfl, E, HSUB.out, HSEG.out, HT.out⟩

/-- Nothing to sort. -/
theorem insertion_nil (w : World) (x f : Value) : Calls Try.prog 40 #[x, .int .i64 0, .int .i64 0, f] w fun e w' => e = .returned (.tuple #[]) ∧ w' = w := by
  go_enter Try.func40, Try.ntmps40
  go_wp2_with fail
  go_loopw [8] (fun iv wr => iv = .int .i64 1 ∧ wr = w) (fun _ _ => 0)
  case atStart => exact ⟨rfl, rfl⟩
  case round =>
    obtain ⟨rfl, rfl⟩ := hrel
    go_wp2_with fail
    go_end0
    exact ⟨rfl, rfl⟩
theorem stable_nil (w : World) (x f : Value) : Calls Try.prog 33 #[x, .int .i64 0, f] w fun e w' => e = .returned (.tuple #[]) ∧ w' = w := by
  have K := Lib.hid (insertion_nil w x f)
  go_enter Try.func33, Try.ntmps33
  go_wp2_with fail
  go_loopw [7, 8] (fun av bv wr => av = .int .i64 0 ∧ bv = .int .i64 20 ∧ wr = w) (fun _ _ _ => 0)
  case atStart => exact ⟨rfl, rfl, rfl⟩
  case round =>
    obtain ⟨rfl, rfl, rfl⟩ := hrel
    go_wp2_with fail
    refine K.out.mono ?_
    rintro e w2 ⟨rfl, rfl⟩
    go_wp2_with fail
    go_loopw [6] (fun sv wr => sv = .int .i64 20 ∧ wr = w2) (fun _ _ => 0)
    case atStart => exact ⟨rfl, rfl⟩
    case round =>
      obtain ⟨rfl, rfl⟩ := hrel
      go_wp2_with fail
      go_end0
      exact ⟨rfl, rfl⟩
end Go.Proofs.Ytkbebllkjmccoaa
