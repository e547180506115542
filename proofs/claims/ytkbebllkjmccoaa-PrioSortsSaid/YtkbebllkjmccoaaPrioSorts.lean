/- PrioSorts answers true, and makes only new memory. Conditions: prio's calls are as their contracts say; the row lies in memory. -/
import Derived.Test.YtkbebllkjmccoaaPrioEq
import Derived.Test.YtkbebllkjmccoaaPrioAwake
import Derived.Test.YtkbebllkjmccoaaPrioNums
import Derived.LoopTactic
import Derived.RegionTactic
import Derived.Deep.CutBlock
import Derived.Deep.DeepCutAuto
import Derived.Deep.RegionHeld3
import Derived.Laws.BitsLemmas
namespace Go.Proofs.Ytkbebllkjmccoaa
open Go.RowKit Go.WideShapes

theorem ps_mask1 (n : Int) : bits .and .i64 n 1 = n % 2 := by
  have key : (BitVec.ofInt 64 n &&& BitVec.ofInt 64 1).toNat = (n % ((2 ^ 64 : Nat) : Int)).toNat % 2 ^ 1 := by
    rw [BitVec.toNat_and, BitVec.toNat_ofInt, show (BitVec.ofInt 64 1).toNat = 2 ^ 1 - 1 by decide, Nat.and_two_pow_sub_one_eq_mod]
  show IntKind.i64.wrap ((BitVec.ofInt 64 n &&& BitVec.ofInt 64 1).toNat : Nat) = n % 2
  rw [key, IntKind.wrap_i64]
  omega
theorem ps_umask7 (n : Int) : bits .and .u64 n 7 = n % 8 := by
  have key : (BitVec.ofInt 64 n &&& BitVec.ofInt 64 7).toNat = (n % ((2 ^ 64 : Nat) : Int)).toNat % 2 ^ 3 := by
    rw [BitVec.toNat_and, BitVec.toNat_ofInt, show (BitVec.ofInt 64 7).toNat = 2 ^ 3 - 1 by decide, Nat.and_two_pow_sub_one_eq_mod]
  show IntKind.u64.wrap ((BitVec.ofInt 64 n &&& BitVec.ofInt 64 7).toNat : Nat) = n % 8
  rw [key, IntKind.wrap_u64]
  omega
/-- What is pushed of the price at j. -/
def mkS (hs : List Int) (j : Nat) : OrdV := ⟨(j : Int) + 1, 0, false, hs.getD j 0 % 8, 1⟩
/-- Which have come. -/
def cameS (od : Bool) (N i j : Nat) : Prop := j < N ∧ (if od then N - i ≤ j else j < i)
def AllS (od : Bool) (hs : List Int) (N i : Nat) (L : Ords) : Prop := L.length = i ∧ ∀ o ∈ L, ∃ j, cameS od N i j ∧ o = mkS hs j
theorem allS_push {od up : Bool} {hs : List Int} {N i q : Nat} {L : Ords} (h : AllS od hs N i L) (hi : i < N) (hq : q = if od then N - 1 - i else i) :
    (∀ p ∈ L, p.id ≠ (mkS hs q).id) ∧ AllS od hs N (i + 1) (insQ up (mkS hs q) L) ∧ q < N := by
  have hqN : q < N := by subst hq; split <;> omega
  refine ⟨fun p hp => ?_, ⟨by rw [insQ_length, h.1], fun o ho => ?_⟩, hqN⟩
  · obtain ⟨j, ⟨_, hj⟩, rfl⟩ := h.2 p hp
    show (j : Int) + 1 ≠ (q : Int) + 1
    cases od
    · simp only [Bool.false_eq_true, if_false] at hj hq; omega
    · simp only [if_true] at hj hq; omega
  · rcases mem_insQ.1 ho with rfl | ho
    · refine ⟨q, ⟨hqN, ?_⟩, rfl⟩
      cases od
      · simp only [Bool.false_eq_true, if_false] at hq ⊢; omega
      · simp only [if_true] at hq ⊢; omega
    · obtain ⟨j, ⟨hjN, hj⟩, rfl⟩ := h.2 o ho
      refine ⟨j, ⟨hjN, ?_⟩, rfl⟩
      cases od
      · simp only [Bool.false_eq_true, if_false] at hj ⊢; omega
      · simp only [if_true] at hj ⊢; omega

set_option maxRecDepth 100000 in
set_option maxHeartbeats 16000000 in
theorem psorts_some (T : PrioApi) (up : Bool) (A : Option Addr) (cap : Nat) (hs : List Int) (ord : Int) (w : World) (hlh : hs.length ≤ 9223372036854775807) (hh : NumsAt w A hs) (_ : I64 ord) :
    Calls Try.prog 3 #[.bool up, .slice A hs.length cap, .int .i64 ord] w fun e w' => e = .returned (.bool true) ∧ Below w.heap.size w w' := by
  obtain ⟨nh, hnh⟩ : ∃ k, hs.length = k := ⟨_, rfl⟩
  rw [hnh] at hlh ⊢
  obtain ⟨N, hN⟩ : ∃ N : Nat, N = min nh 40 := ⟨_, rfl⟩
  have hNn : N ≤ nh ∧ N ≤ 40 := by omega
  have hNs : Hid (N ≤ hs.length) := Lib.hid (by omega)
  have hN40 := hNn.2
  have hmin : (if 40 < (nh : Int) then (40 : Int) else (nh : Int)) = (N : Int) := by split <;> omega
  have HNH := Lib.hid hnh; have HH := Lib.hid hh; have HNN := Lib.hid hNn
  have e1 := ps_mask1 ord
  obtain ⟨om, hom⟩ : ∃ m : Int, ord % 2 = m := ⟨_, rfl⟩
  rw [hom] at e1
  obtain ⟨od, hod⟩ : ∃ o : Bool, decide (om = 1) = o := ⟨_, rfl⟩
  have HOD := Lib.hid hod
  clear hnh hh hN hNn hom hod
  go_enter Try.func3, Try.ntmps3
  go_wp2_with fail
  refine (st_queue T (St.start w w (Below.refl _ _)) up).mono ?_
  rintro e w1 ⟨p, rfl, h1⟩
  have H1 := Lib.hid h1
  clear h1
  go_upto_block 0 with fail
  go_cut [9] (fun _ wx => ∃ L, GoodQ up L ∧ AllS od hs N N L ∧ St w wx (star (T.IsQ (.pointer (some p)) up L) nothing))
  case first =>
    go_wp2_with fail
    go_loopw [9] (fun i wr => ∃ (k : Nat) (L : Ords), k ≤ N ∧ i = .int .i64 k ∧ GoodQ up L ∧ AllS od hs N k L ∧ St w wr (star (T.IsQ (.pointer (some p)) up L) nothing)) (fun i _ => N - (intOf i).toNat)
    case atStart => exact ⟨0, [], by omega, rfl, goodQ_nil up, ⟨rfl, fun o h => by cases h⟩, H1.out⟩
    case round =>
      obtain ⟨k, L, hk, rfl, hg, hL, hst⟩ := hrel
      have HST := Lib.hid hst; have HG := Lib.hid hg; have HL := Lib.hid hL
      clear hst hg hL H1
      by_cases hgo : k < N
      · go_upto_if 34 with fail
        go_cut [10] (fun kk wx => ∃ q : Nat, kk = .int .i64 q ∧ q = (if od then N - 1 - k else k) ∧ wx = wr)
        case first =>
          by_cases h1 : om = 1
          · have ho : od = true := by rw [← HOD.out]; exact decide_eq_true h1
            subst h1; subst ho
            go_wp2_with fail
            go_meet
            exact ⟨N - 1 - k, by go_num, rfl, rfl⟩
          · have ho : od = false := by rw [← HOD.out]; exact decide_eq_false h1
            have b1 : (om == 1) = false := beq_eq_false_iff_ne.2 h1
            subst ho
            clear h1
            go_wp2_with fail
            go_meet
            exact ⟨k, rfl, rfl, rfl⟩
        case rest =>
          obtain ⟨q, rfl, hq, hwc⟩ := hcut
          subst hwc
          obtain ⟨hid, hall, hqN⟩ := allS_push (up := up) HL.out hgo hq
          have hqh : q < hs.length := Nat.lt_of_lt_of_le hqN hNs.out
          obtain ⟨b, off, rfl, hb, hc, hu⟩ := HH.out.at hqh
          have hgd : hs.getD q 0 = hs[q] := by rw [List.getD_eq_getElem?_getD, List.getElem?_eq_getElem hqh]; rfl
          have em : mkS hs q = ⟨(q : Int) + 1, 0, false, hs[q] % 8, 1⟩ := by unfold mkS; rw [hgd]
          have hok : (mkS hs q).ok := by
            rw [em]
            exact ok_small (by show I64 ((q : Int) + 1); exact ⟨by omega, by omega⟩) (by show I64 (0 : Int); decide) (by show U64 (hs[q] % 8); exact ⟨by omega, by omega⟩) (by show U64 (1 : Int); decide)
          have K := HST.out.qpush (mkS hs q) HG.out (by rw [HL.out.1]; omega) hok hid
          have HG2 := Lib.hid (HG.out.push hok hid)
          obtain ⟨L2, hL2⟩ : ∃ l, insQ up (mkS hs q) L = l := ⟨_, rfl⟩
          rw [hL2] at K hall HG2
          rw [em] at K
          unfold OrdV.val at K
          generalize hs[q] = x at hc hu K em
          have hcw := (HST.out.below.cell (p := ⟨b, off + q, none⟩) hb).trans hc
          have um := ps_umask7 x
          have HK := Lib.hid K; have HA := Lib.hid hall; have hqn : q < nh := Nat.lt_of_lt_of_le hqN HNN.out.1
          clear hid hall hc hu hgd em hok K hL2 HST HG HL hq
          go_wp2_with fail
          refine HK.out.mono ?_
          rintro e w3 ⟨rfl, h3⟩
          have H3 := Lib.hid h3
          clear h3 HK hcw um
          go_wp2_with fail
          go_roundw
          case rel => exact ⟨k + 1, L2, by omega, by go_num, HG2.out, HA.out, H3.out⟩
          case measure => simp [intOf]; omega
      · obtain rfl : k = N := by omega
        clear hgo
        go_wp2_with fail
        go_meet
        exact ⟨L, HG.out, HL.out, HST.out⟩
  case rest =>
    obtain ⟨L, hg, hL, hst⟩ := hcut
    obtain ⟨w2, rfl⟩ : ∃ w2 : World, w2 = wc := ⟨_, rfl⟩
    have hmk : ∀ o ∈ L, ∃ j, j < N ∧ o = mkS hs j := fun o ho => by
      obtain ⟨j, ⟨hj, _⟩, e⟩ := hL.2 o ho
      exact ⟨j, hj, e⟩
    have HG := Lib.hid hg; have HL := Lib.hid hL.1; have HM := Lib.hid hmk
    obtain ⟨bl, hbl, h3⟩ := hst.local5 #[.int .i64 0, .int .i64 0, .bool false, .int .u64 0, .int .u64 0] 28
    have H3 := Lib.hid h3.swap
    clear hg hL hst h3 H1 hmk
    go_upto_block 2 with fail
    rw [← hbl]
    clear hbl
    generalize w2.alloc (.cells #[.int .i64 0, .int .i64 0, .bool false, .int .u64 0, .int .u64 0] 28) = w3 at H3 ⊢
    go_cut [12] (fun _ wx => St w wx (star (T.IsQ (.pointer (some p)) up []) nothing))
    case first =>
      go_wp2_with fail
      go_loopw [12] (fun i wr => ∃ (k : Nat) (t : Ords) (lv : OrdV), k ≤ N ∧ i = .int .i64 k ∧ t.length + k = N ∧ GoodQ up t ∧ (∀ o ∈ t, ∃ j, j < N ∧ o = mkS hs j) ∧ (0 < k → ∀ o ∈ t, aheadO up lv o = true) ∧ St w wr (star (T.IsQ (.pointer (some p)) up t) (star (Blk bl lv.arr 28) nothing))) (fun i _ => N - (intOf i).toNat)
      case atStart => exact ⟨0, L, OrdV.zero, by omega, rfl, by rw [HL.out, Nat.add_zero], HG.out, HM.out, fun h => absurd h (by decide), H3.out⟩
      case round =>
        obtain ⟨k, t, lv, hk, rfl, htl, hg, hm, hah, hst⟩ := hrel
        clear H3 HG HL HM
        by_cases hgo : k < N
        · obtain ⟨o, t, rfl⟩ : ∃ o t', t = o :: t' := by
            rcases t with _ | ⟨o, t'⟩
            · simp at htl; omega
            · exact ⟨o, t', rfl⟩
          obtain ⟨j, hj, rfl⟩ := hm o (by simp)
          have htl2 : t.length + 1 + k = N := by simpa using htl
          have hlen : (mkS hs j :: t).length ≤ 100000 := by omega
          have hjh : j < hs.length := Nat.lt_of_lt_of_le hj hNs.out
          have hgd : hs.getD j 0 = hs[j] := by rw [List.getD_eq_getElem?_getD, List.getElem?_eq_getElem hjh]; rfl
          have em : mkS hs j = ⟨(j : Int) + 1, 0, false, hs[j] % 8, 1⟩ := by unfold mkS; rw [hgd]
          obtain ⟨b, off, rfl, hb, hc, hu⟩ := HH.out.at hjh
          obtain ⟨y, hy⟩ : ∃ y, hs[j] % 8 = y := ⟨_, rfl⟩
          rw [hy] at em
          rw [em] at hst hg hah hlen
          have um := ps_umask7 hs[j]
          rw [hy] at um
          generalize hs[j] = x at hc hu um hy
          have HM := Lib.hid (fun o ho => hm o (List.mem_cons_of_mem _ ho)); have HAH := Lib.hid hah; have HG := Lib.hid hg; have HLN := Lib.hid hlen; have HT := Lib.hid htl2; have HC := Lib.hid hc; have HEM := Lib.hid em; have HU := Lib.hid hu
          have K := hst.qpeek_cons hg hlen
          unfold OrdV.val at K
          have HK := Lib.hid K
          clear hst hg hm hah K htl htl2 hlen em hc hgd hu
          go_wp2_with fail
          refine HK.out.mono ?_
          rintro e w4 ⟨rfl, h4, _⟩
          obtain ⟨bp, hbp, h5⟩ := h4.local5 #[.int .i64 ((j : Int) + 1), .int .i64 0, .bool false, .int .u64 y, .int .u64 1] 28
          have K := h5.swap.qpop_cons HG.out HLN.out
          unfold OrdV.val at K
          have HK2 := Lib.hid K
          clear h4 h5 K HK
          go_wp2_with fail
          rw [← hbp]
          clear hbp
          refine HK2.out.mono ?_
          rintro e w5 ⟨rfl, h6⟩
          obtain ⟨bo, hbo, h7⟩ := h6.local5 #[.int .i64 ((j : Int) + 1), .int .i64 0, .bool false, .int .u64 y, .int .u64 1] 28
          have H7 := Lib.hid h7
          clear h6 h7 HK2
          go_upto_region 18 with fail
          rw [← hbo]
          clear hbo
          generalize w5.alloc (.cells #[.int .i64 ((j : Int) + 1), .int .i64 0, .bool false, .int .u64 y, .int .u64 1] 28) = w6 at H7 ⊢
          have fact : ∀ w' : World, St w w' (star (Blk bo #[.int .i64 ((j : Int) + 1), .int .i64 0, .bool false, .int .u64 y, .int .u64 1] 28) (star (T.IsQ (.pointer (some p)) up t) (star (Blk bp #[.int .i64 ((j : Int) + 1), .int .i64 0, .bool false, .int .u64 y, .int .u64 1] 28) (star (Blk bl lv.arr 28) nothing)))) →
              (w'.cell? ⟨bo, 0, none⟩ = some (.int .i64 ((j : Int) + 1)) ∧ w'.cell? ⟨bo, 1, none⟩ = some (.int .i64 0) ∧ w'.cell? ⟨bo, 2, none⟩ = some (.bool false) ∧ w'.cell? ⟨bo, 3, none⟩ = some (.int .u64 y) ∧ w'.cell? ⟨bo, 4, none⟩ = some (.int .u64 1) ∧
              w'.cell? ⟨bp, 0, none⟩ = some (.int .i64 ((j : Int) + 1)) ∧ w'.cell? ⟨bp, 1, none⟩ = some (.int .i64 0) ∧ w'.cell? ⟨bp, 2, none⟩ = some (.bool false) ∧ w'.cell? ⟨bp, 3, none⟩ = some (.int .u64 y) ∧ w'.cell? ⟨bp, 4, none⟩ = some (.int .u64 1) ∧
              w'.cell? ⟨b, off + j, none⟩ = some (.int .u64 x)) := fun w' h => by
            obtain ⟨_, _, q1, _⟩ := h.blk
            obtain ⟨_, _, q2, _⟩ := h.third.blk
            exact ⟨q1 0 _ rfl, q1 1 _ rfl, q1 2 _ rfl, q1 3 _ rfl, q1 4 _ rfl, q2 0 _ rfl, q2 1 _ rfl, q2 2 _ rfl, q2 3 _ rfl, q2 4 _ rfl, (h.below.cell (p := ⟨b, off + j, none⟩) hb).trans HC.out⟩
          have hm1 : (t.length : Int) = (N : Int) - 1 - (k : Int) := by have := HT.out; omega
          have K := (H7.out.drew).swap.qlen (by have := HT.out; omega)
          rw [hm1] at K
          have HK := Lib.hid K; have HF := Lib.hid fact
          have e0 := fact _ H7.out.drew
          have b1 : decide ((j : Int) + 1 < 1) = false := decide_eq_false (by omega)
          have b2 : decide ((N : Int) < (j : Int) + 1) = false := decide_eq_false (by omega)
          have hneq : ∀ w' : World, (binOp .neq 28 (.agg #[.int .i64 ((j : Int) + 1), .int .i64 0, .bool false, .int .u64 y, .int .u64 1]) (.agg #[.int .i64 ((j : Int) + 1), .int .i64 0, .bool false, .int .u64 y, .int .u64 1])).run Try.prog w' = .ok (.bool false) w' := fun w' => by
            have := neq_ord (HG.out.ok _ (List.mem_cons_self ..)) (HG.out.ok _ (List.mem_cons_self ..)) w'
            rw [decide_eq_true rfl] at this
            exact this
          have hw1 : IntKind.i64.wrap ((N : Int) - 1) = (N : Int) - 1 := IntWalk.i64_in _ (by omega)
          have hw2 : IntKind.i64.wrap ((N : Int) - 1 - (k : Int)) = (N : Int) - 1 - (k : Int) := IntWalk.i64_in _ (by omega)
          have hjn : j < nh := Nat.lt_of_lt_of_le hj HNN.out.1
          have hw3 : IntKind.i64.wrap ((j : Int) + 1 - 1) = (j : Int) := by rw [show (j : Int) + 1 - 1 = j by omega]; exact IntWalk.i64_in _ (by omega)
          have hw4 : IntKind.i64.wrap (j : Int) = (j : Int) := IntWalk.i64_in _ (by omega)
          have hj0 : (0 : Int) ≤ (j : Int) := by omega
          have hj1 : (j : Int) < (nh : Int) := by omega
          clear K fact hm1
          go_cut [107] (fun s107 wx => s107 = .bool false ∧ St w wx (star (Blk bo #[.int .i64 ((j : Int) + 1), .int .i64 0, .bool false, .int .u64 y, .int .u64 1] 28) (star (T.IsQ (.pointer (some p)) up t) (star (Blk bp #[.int .i64 ((j : Int) + 1), .int .i64 0, .bool false, .int .u64 y, .int .u64 1] 28) (star (Blk bl lv.arr 28) nothing)))))
          case first =>
            go_region_held3 (fun w' : World => (w'.cell? ⟨bo, 0, none⟩ = some (.int .i64 ((j : Int) + 1)) ∧ w'.cell? ⟨bo, 1, none⟩ = some (.int .i64 0) ∧ w'.cell? ⟨bo, 2, none⟩ = some (.bool false) ∧ w'.cell? ⟨bo, 3, none⟩ = some (.int .u64 y) ∧ w'.cell? ⟨bo, 4, none⟩ = some (.int .u64 1) ∧
              w'.cell? ⟨bp, 0, none⟩ = some (.int .i64 ((j : Int) + 1)) ∧ w'.cell? ⟨bp, 1, none⟩ = some (.int .i64 0) ∧ w'.cell? ⟨bp, 2, none⟩ = some (.bool false) ∧ w'.cell? ⟨bp, 3, none⟩ = some (.int .u64 y) ∧ w'.cell? ⟨bp, 4, none⟩ = some (.int .u64 1) ∧
              w'.cell? ⟨b, off + j, none⟩ = some (.int .u64 x))) (first | exact e1 | exact e0) (first
              | (go_at_call 11; refine HK.out.mono ?_; rintro e w8 ⟨rfl, h8, _⟩; have e1 := HF.out _ h8.swap; have H8 := Lib.hid h8.swap; clear h8))
            all_goals
              go_wp2_with fail
              go_meet
              exact ⟨by first | rfl | simp, H8.out⟩
          case rest =>
            obtain ⟨rfl, hst⟩ := hcut
            obtain ⟨w7, rfl⟩ : ∃ w7 : World, w7 = wc := ⟨_, rfl⟩
            obtain ⟨_, _, q1, _⟩ := hst.blk
            obtain ⟨_, lt2, q2, z2⟩ := hst.snd.snd.snd.blk
            have o0 := q1 0 (.int .i64 ((j : Int) + 1)) rfl
            have o1 := q1 1 (.int .i64 0) rfl
            have o2 := q1 2 (.bool false) rfl
            have o3 := q1 3 (.int .u64 y) rfl
            have o4 := q1 4 (.int .u64 1) rfl
            have l0 := q2 0 (.int .i64 lv.id) rfl
            have l3 := q2 3 (.int .u64 lv.price) rfl
            have HST := Lib.hid hst
            obtain ⟨li, lp, hli, hlp⟩ : ∃ a b, lv.id = a ∧ lv.price = b := ⟨_, _, rfl, rfl⟩
            have hah : 0 < k → (if lp = y then li < (j : Int) + 1 else (lp < y ↔ up = true)) := fun h => by
              have := HAH.out h _ (List.mem_cons_self ..)
              unfold aheadO at this
              simp only [hli, hlp] at this
              split
              · next e => rw [if_pos e] at this; exact of_decide_eq_true this
              · next e =>
                rw [if_neg e] at this
                cases up <;> simpa using this
            rw [hli] at l0
            rw [hlp] at l3
            clear hst q1 q2 hli hlp hneq e0 HK HF H7 hw1 hw2 hw3 hw4
            go_upto_region 20 with fail
            go_cut [144] (fun s144 wx => s144 = .bool false ∧ wx = w7)
            case first =>
              by_cases hk0 : k = 0
              · subst hk0
                clear hah
                go_wp2_with fail
                go_meet
                exact ⟨by first | rfl | simp, rfl⟩
              · have hkp : 0 < k := by omega
                have hah2 := hah (by omega)
                by_cases hpe : lp = y
                · rw [if_pos hpe] at hah2
                  have c1 : (y == lp) = true := by rw [hpe]; exact beq_self_eq_true y
                  have c2 : decide (y < lp) = false := decide_eq_false (by omega)
                  have c3 : decide (lp < y) = false := decide_eq_false (by omega)
                  have c4 : decide ((j : Int) + 1 ≤ li) = false := decide_eq_false (by omega)
                  clear hah hah2 hpe hk0
                  rcases up with _ | _
                  all_goals
                    go_wp2_with fail
                    go_meet
                    exact ⟨by first | rfl | simp, rfl⟩
                · rw [if_neg hpe] at hah2
                  have c1 : (y == lp) = false := beq_eq_false_iff_ne.2 (fun h => hpe h.symm)
                  rcases up with _ | _
                  · have c3 : decide (lp < y) = false := decide_eq_false (fun h => by simpa using hah2.1 h)
                    clear hah hah2 hpe hk0
                    go_wp2_with fail
                    go_meet
                    exact ⟨by first | rfl | simp, rfl⟩
                  · have c2 : decide (y < lp) = false := decide_eq_false (by have := hah2.2 rfl; omega)
                    clear hah hah2 hpe hk0
                    go_wp2_with fail
                    go_meet
                    exact ⟨by first | rfl | simp, rfl⟩
            case rest =>
              obtain ⟨rfl, hwc⟩ := hcut
              subst hwc
              have hb4 := (HST.out.snd.third.assoc'.fst)
              obtain ⟨⟨s0, z0⟩, ⟨s1, z1⟩, ⟨s2, z2⟩, ⟨s3, z3⟩, ⟨s4, z4⟩, h8⟩ := hb4.store5 (⟨(j : Int) + 1, 0, false, y, 1⟩ : OrdV)
              have H8 := Lib.hid h8.comm.pad2
              clear hb4 h8 hah b1 b2
              go_wp2_with fail
              go_roundw
              case rel => exact ⟨k + 1, t, ⟨(j : Int) + 1, 0, false, y, 1⟩, by omega, by go_num, by have := HT.out; omega, HG.out.tail, HM.out, fun _ o ho => (List.pairwise_cons.1 HG.out.sorted).1 o ho, H8.out⟩
              case measure => simp [intOf]; omega
        · obtain rfl : k = N := by omega
          obtain rfl : t = [] := List.eq_nil_of_length_eq_zero (by omega)
          have HST := Lib.hid hst.assoc'.fst.fst
          clear hst hg hm hah htl hgo
          go_wp2_with fail
          go_meet
          exact HST.out.pad
    case rest =>
      have K := hcut.qpop (goodQ_nil up) (by decide)
      have HK := Lib.hid K
      clear hcut K H3 HG HL HM
      go_wp2_with fail
      refine HK.out.mono ?_
      rintro e w8 ⟨rfl, h8⟩
      have HB := Lib.hid h8.below
      have HSZ := Lib.hid h8.size
      clear h8 HK
      simp only [OrdV.val, OrdV.zero, List.headD_nil, List.isEmpty_nil, Bool.not_true]
      go_wp2_with fail
      refine (pawake_any T _).mono ?_
      rintro e w9 ⟨rfl, hb9⟩
      have HB9 := Lib.hid hb9
      clear hb9
      go_wp2_with fail
      go_ret
      exact ⟨rfl, (HB.out.alloc HSZ.out _).trans (HB9.out.mono (by have := HSZ.out; simp; omega))⟩
end Go.Proofs.Ytkbebllkjmccoaa
