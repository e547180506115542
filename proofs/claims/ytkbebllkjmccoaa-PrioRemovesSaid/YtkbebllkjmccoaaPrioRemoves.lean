/- PrioRemoves answers true, and makes only new memory. Conditions: prio's calls are as their contracts say; the row lies in memory. -/
import Derived.Test.YtkbebllkjmccoaaPrioRows
import Derived.Test.YtkbebllkjmccoaaPrioAwake
import Derived.Test.YtkbebllkjmccoaaPrioNums
import Derived.LoopTactic
import Derived.RegionTactic
import Derived.Deep.CutBlock
import Derived.Deep.DeepCutAuto
import Derived.Deep.RegionHeld3
namespace Go.Proofs.Ytkbebllkjmccoaa
open Go.RowKit Go.WideShapes

/-- What came in: all numbers from 1 on, once each. -/
def AllR (i : Nat) (L : Ords) : Prop := L.length = i ∧ (∀ o ∈ L, 1 ≤ o.id ∧ o.id ≤ i) ∧ ∀ m : Int, 1 ≤ m ∧ m ≤ i → ∃ o ∈ L, o.id = m
theorem allR_nil : AllR 0 [] := ⟨rfl, fun o h => (by cases h), fun m h => by have h1 := h.1; have h2 := h.2; simp at h2; omega⟩
theorem allR_push {up : Bool} {i : Nat} {L : Ords} {o : OrdV} (h : AllR i L) (hid : o.id = (i : Int) + 1) :
    (∀ p ∈ L, p.id ≠ o.id) ∧ AllR (i + 1) (insQ up o L) := by
  refine ⟨fun p hp => ?_, by rw [insQ_length, h.1], fun p hp => ?_, fun m hm => ?_⟩
  · have := h.2.1 p hp
    omega
  · rcases mem_insQ.1 hp with rfl | hp
    · exact ⟨by omega, by omega⟩
    · have := h.2.1 p hp
      exact ⟨by omega, by omega⟩
  · by_cases e : m = (i : Int) + 1
    · exact ⟨o, mem_insQ.2 (Or.inl rfl), by rw [hid, e]⟩
    · obtain ⟨q, hq, hqm⟩ := h.2.2 m ⟨hm.1, by have := hm.2; omega⟩
      exact ⟨q, mem_insQ.2 (Or.inr hq), hqm⟩
theorem allR_find {i : Nat} {L : Ords} (h : AllR i L) (m : Int) : (findQ m L).isSome = (decide (1 ≤ m) && decide (m ≤ i)) := by
  by_cases hm : 1 ≤ m ∧ m ≤ i
  · rw [find_is.2 (h.2.2 m hm), decide_eq_true hm.1, decide_eq_true hm.2]; rfl
  · have hf : (findQ m L).isSome = false := by
      cases hq : (findQ m L).isSome
      · rfl
      · obtain ⟨o, ho, e⟩ := find_is.1 hq
        exact absurd (e ▸ h.2.1 o ho) hm
    rw [hf]
    by_cases h1 : 1 ≤ m
    · rw [decide_eq_true h1, decide_eq_false (fun h2 => hm ⟨h1, h2⟩)]; rfl
    · rw [decide_eq_false h1]; rfl

set_option maxRecDepth 100000 in
set_option maxHeartbeats 16000000 in
theorem premoves_some (T : PrioApi) (up : Bool) (A : Option Addr) (cap : Nat) (hs : List Int) (idn n : Int) (w : World) (hlh : hs.length ≤ 9223372036854775807) (hh : NumsAt w A hs) (_ : I64 idn) (hn : U64 n) :
    Calls Try.prog 4 #[.bool up, .slice A hs.length cap, .int .i64 idn, .int .u64 n] w fun e w' => e = .returned (.bool true) ∧ Below w.heap.size w w' := by
  obtain ⟨nh, hnh⟩ : ∃ k, hs.length = k := ⟨_, rfl⟩
  rw [hnh] at hlh ⊢
  obtain ⟨N, hN⟩ : ∃ N : Nat, N = min nh 30 := ⟨_, rfl⟩
  have hNn : N ≤ nh ∧ N ≤ 30 := by omega
  have hNs : Hid (N ≤ hs.length) := Lib.hid (by omega)
  have hN30 := hNn.2
  have hNn1 := hNn.1
  have hmin : (if 30 < (nh : Int) then (30 : Int) else (nh : Int)) = (N : Int) := by split <;> omega
  have HNH := Lib.hid hnh; have HH := Lib.hid hh; have HNU := Lib.hid hn
  clear hnh hh hN hNn hn
  go_enter Try.func4, Try.ntmps4
  go_wp2_with fail
  refine (st_queue T (St.start w w (Below.refl _ _)) up).mono ?_
  rintro e w1 ⟨p, rfl, h1⟩
  have H1 := Lib.hid h1
  clear h1
  go_upto_block 0 with fail
  go_cut [11] (fun _ wx => ∃ L, GoodQ up L ∧ AllR N L ∧ St w wx (star (T.IsQ (.pointer (some p)) up L) nothing))
  case first =>
    go_wp2_with fail
    go_loopw [11] (fun i wr => ∃ (k : Nat) (L : Ords), k ≤ N ∧ i = .int .i64 k ∧ GoodQ up L ∧ AllR k L ∧ St w wr (star (T.IsQ (.pointer (some p)) up L) nothing)) (fun i _ => N - (intOf i).toNat)
    case atStart => exact ⟨0, [], by omega, rfl, goodQ_nil up, allR_nil, H1.out⟩
    case round =>
      obtain ⟨k, L, hk, rfl, hg, hL, hst⟩ := hrel
      have HST := Lib.hid hst; have HG := Lib.hid hg; have HL := Lib.hid hL
      clear hst hg hL H1
      by_cases hgo : k < N
      · have hqh : k < hs.length := Nat.lt_of_lt_of_le hgo hNs.out
        obtain ⟨b, off, rfl, hb, hc, hu⟩ := HH.out.at hqh
        generalize hs[k] = x at hc hu
        obtain ⟨y, hy⟩ : ∃ y, x % 16 = y := ⟨_, rfl⟩
        obtain ⟨z, hz⟩ : ∃ z, x / 16 % 8 = z := ⟨_, rfl⟩
        have um := pn_umask15 x
        have um2 := pn_umask7 (x / 16)
        rw [hy] at um
        rw [hz] at um2
        have hzr : 0 ≤ z ∧ z < 8 := by omega
        have hwr : IntKind.u64.wrap (z + 1) = z + 1 := IntWalk.u64_in _ (by omega)
        have hkn : (k : Int) < nh := by omega
        have hk0 : (0 : Int) ≤ (k : Int) := by omega
        have hwk : IntKind.i64.wrap ((k : Int) + 1) = (k : Int) + 1 := IntWalk.i64_in _ (by omega)
        have hok : (⟨(k : Int) + 1, 0, false, y, z + 1⟩ : OrdV).ok := ok_small (by show I64 ((k : Int) + 1); exact ⟨by omega, by omega⟩) (by show I64 (0 : Int); decide) (by show U64 y; exact ⟨by omega, by omega⟩) (by show U64 (z + 1); exact ⟨by omega, by omega⟩)
        obtain ⟨hid, hall⟩ := allR_push (up := up) (o := ⟨(k : Int) + 1, 0, false, y, z + 1⟩) HL.out rfl
        have K := (HST.out.drew).qpush _ HG.out (by rw [HL.out.1]; omega) hok hid
        have HG2 := Lib.hid (HG.out.push hok hid)
        obtain ⟨L2, hL2⟩ : ∃ l, insQ up (⟨(k : Int) + 1, 0, false, y, z + 1⟩ : OrdV) L = l := ⟨_, rfl⟩
        rw [hL2] at K hall HG2
        unfold OrdV.val at K
        have hcw := (HST.out.below.cell (p := ⟨b, off + k, none⟩) hb).trans hc
        have HK := Lib.hid K; have HA := Lib.hid hall; have HC := Lib.hid hc
        have e0 : wr.drew.cell? ⟨b, off + k, none⟩ = some (.int .u64 x) := hcw
        clear hid hall hc hu hok K hL2 HST HG HL hy hz hcw
        go_wp2_with fail
        go_region_held3 (fun w' : World => w'.cell? ⟨b, off + k, none⟩ = some (.int .u64 x)) (first | exact e1 | exact e0) (first
          | (go_at_call 8; refine HK.out.mono ?_; rintro e w8 ⟨rfl, h8⟩; have e1 := (h8.below.cell (p := ⟨b, off + k, none⟩) hb).trans HC.out; have H8 := Lib.hid h8; clear h8))
        all_goals
          go_wp2_with fail
          go_roundw
          case rel => exact ⟨k + 1, L2, by omega, by go_num, HG2.out, HA.out, H8.out⟩
          case measure => simp [intOf]; omega
      · obtain rfl : k = N := by omega
        clear hgo
        go_wp2_with fail
        go_meet
        exact ⟨L, HG.out, HL.out, HST.out⟩
  case rest =>
    obtain ⟨L, hg, hL, hst⟩ := hcut
    obtain ⟨w2, rfl⟩ : ∃ w2 : World, w2 = wc := ⟨_, rfl⟩
    have e31 := pn_mask31 idn
    obtain ⟨i0, hi0⟩ : ∃ m, idn % 32 = m := ⟨_, rfl⟩
    rw [hi0] at e31
    have hir : I64 i0 := ⟨by omega, by omega⟩
    have hlN : L.length ≤ 100000 := by rw [hL.1]; omega
    have hlen := hL.1
    have K := hst.qall hg hlN
    have HK := Lib.hid K; have HG := Lib.hid hg; have HL := Lib.hid hL; have HIR := Lib.hid hir; have HLN := Lib.hid hlN; have HLE := Lib.hid hlen
    clear hg hL hst K H1 hi0 hir hlN
    go_wp2_with fail
    refine HK.out.mono ?_
    rintro e w3 ⟨x, rfl, h3⟩
    obtain ⟨Ax, cx, rfl, _, _, _⟩ := h3.rv
    rw [hlen] at h3
    have K2 := h3.swap.qremove i0 HG.out HLN.out HIR.out
    rw [allR_find HL.out i0] at K2
    have HK2 := Lib.hid K2
    simp only [hlen]
    clear h3 HK K2 hlen
    go_wp2_with fail
    refine HK2.out.mono ?_
    rintro e w4 ⟨⟨o1, o2, o3, o4, o5⟩, ho, rfl, h4⟩
    have ho1 : Hid (1 ≤ i0 → i0 ≤ N → o1 = i0) := Lib.hid fun h1 h2 => by
      have hs : (findQ i0 L).isSome = true := by rw [allR_find HL.out i0, decide_eq_true h1, decide_eq_true h2]; rfl
      obtain ⟨p, hp⟩ := Option.isSome_iff_exists.1 hs
      have := ho p hp
      rw [← (find_some hp).1, ← this]
    obtain ⟨bo, hbo, h5⟩ := h4.local5 #[.int .i64 o1, .int .i64 o2, .bool o3, .int .u64 o4, .int .u64 o5] 28
    have hgM := HG.out.rm i0
    have hlM : (rmQ i0 L).length ≤ 100000 := Nat.le_trans (List.length_filter_le _ _) HLN.out
    obtain ⟨M, hM⟩ : ∃ M, rmQ i0 L = M := ⟨_, rfl⟩
    have hfM : findQ i0 M = none := by rw [← hM]; exact find_rm i0 L
    have hrM : rmQ i0 M = M := by rw [← hM]; exact rm_rm i0 L
    rw [hM] at hgM hlM h5
    have K := h5.swap.qremove i0 hgM hlM HIR.out
    rw [hfM, hrM] at K
    simp only [Option.isSome_none] at K
    have HK3 := Lib.hid K; have HGM := Lib.hid hgM; have HLM := Lib.hid hlM; have HM := Lib.hid hM
    simp only [OrdV.val]
    clear h4 h5 HK2 K ho hgM hlM hM hfM hrM
    go_wp2_with fail
    rw [← hbo]
    clear hbo
    refine HK3.out.mono ?_
    rintro e w5 ⟨⟨a1, a2, a3, a4, a5⟩, _, rfl, h6⟩
    obtain ⟨ba, hba, h7⟩ := h6.local5 #[.int .i64 a1, .int .i64 a2, .bool a3, .int .u64 a4, .int .u64 a5] 28
    have K := h7.snd.qall HGM.out HLM.out
    have HK4 := Lib.hid K
    simp only [OrdV.val]
    clear h6 h7 HK3 K
    go_wp2_with fail
    refine HK4.out.mono ?_
    rintro e w6 ⟨y, rfl, h8⟩
    obtain ⟨Ay, cy, rfl, _, _, _⟩ := h8.rv
    obtain ⟨m, hm⟩ : ∃ m, M.length = m := ⟨_, rfl⟩
    rw [hm] at h8
    have HMM := Lib.hid hm
    have h9 : St w w6 (star (RowN 28 5 (.slice none 0 0) 0 (cellsO [])) _) := h8.add (Below.refl _ _) (RowN.none w6 _ _) (fun _ h => h.elim)
    have H9 := Lib.hid h9
    simp only [hm]
    clear h8 h9 HK4 hba hm
    go_upto_block 2 with fail
    go_cut [18] (fun s wx => ∃ Ar cr, s = .slice Ar m cr ∧ St w wx (star (RowN 28 5 (.slice Ar m cr) m (cellsO M)) (star (RV (.slice Ay m cy) m (cellsO M)) (star (T.IsQ (.pointer (some p)) up M) (star (Blk bo #[.int .i64 o1, .int .i64 o2, .bool o3, .int .u64 o4, .int .u64 o5] 28) (star (RV (.slice Ax N cx) N (cellsO L)) nothing))))))
    case first =>
      go_wp2_with fail
      go_loopw [18, 74] (fun s i wr => ∃ (j k : Nat) (Ar : Option Addr) (cr : Nat), j ≤ N ∧ s = .slice Ar k cr ∧ i = .int .i64 j ∧ (rmQ i0 (L.take j)).length = k ∧ St w wr (star (RowN 28 5 (.slice Ar k cr) k (cellsO (rmQ i0 (L.take j)))) (star (RV (.slice Ay m cy) m (cellsO M)) (star (T.IsQ (.pointer (some p)) up M) (star (Blk bo #[.int .i64 o1, .int .i64 o2, .bool o3, .int .u64 o4, .int .u64 o5] 28) (star (RV (.slice Ax N cx) N (cellsO L)) nothing)))))) (fun _ i _ => N - (intOf i).toNat)
      case atStart => exact ⟨0, 0, none, 0, by omega, rfl, rfl, rfl, H9.out⟩
      case round =>
        obtain ⟨j, k, Ar, cr, hj, rfl, rfl, hk, hst⟩ := hrel
        clear H9
        by_cases hgo : j < N
        · have hjl : j < L.length := by rw [HLE.out]; exact hgo
          obtain ⟨g, off, rfl, hgl, d0, d1, d2, d3, d4⟩ := Turns.rv_ord (hst.snd.snd.snd.snd) hjl
          have htk : L.take (j + 1) = L.take j ++ [L[j]] := by rw [List.take_succ_eq_append_getElem hjl]
          have hk2 : k ≤ 30 := by rw [← hk]; have := List.length_filter_le (notId i0) (L.take j); rw [List.length_take] at this; unfold rmQ; omega
          generalize L[j] = o at d0 d1 d2 d3 d4 htk
          obtain ⟨f1, f2, f3, f4, f5⟩ := o
          dsimp only at d0 d1 d2 d3 d4
          have hjn : (j : Int) < (N : Int) := by omega
          have hj0 : (0 : Int) ≤ (j : Int) := by omega
          obtain ⟨bx, hbx, h2⟩ := hst.local5 #[.int .i64 f1, .int .i64 f2, .bool f3, .int .u64 f4, .int .u64 f5] 28
          obtain ⟨_, _, qx, _⟩ := h2.blk
          have x0 := qx 0 (.int .i64 f1) rfl
          have x1 := qx 1 (.int .i64 f2) rfl
          have x2 := qx 2 (.bool f3) rfl
          have x3 := qx 3 (.int .u64 f4) rfl
          have x4 := qx 4 (.int .u64 f5) rfl
          have hrow := h2.swap.rowN
          have HR := Lib.hid hrow; have H2 := Lib.hid h2.snd; have HTK := Lib.hid htk; have HKK := Lib.hid hk
          clear hst h2 qx hrow htk hk
          go_upto_if 81 with fail
          rw [← hbx]
          clear hbx d0 d1 d2 d3 d4
          generalize wr.alloc (.cells #[.int .i64 f1, .int .i64 f2, .bool f3, .int .u64 f4, .int .u64 f5] 28) = w7 at HR H2 x0 x1 x2 x3 x4 ⊢
          by_cases hid : i0 = f1
          · subst hid
            have hsame : Hid (rmQ i0 (L.take (j + 1)) = rmQ i0 (L.take j)) := Lib.hid (by rw [HTK.out, rmQ_snoc, if_pos rfl])
            go_wp2_with fail
            go_roundw
            case rel => exact ⟨j + 1, k, Ar, cr, by omega, rfl, by go_num, by rw [hsame.out]; exact HKK.out, by rw [hsame.out]; exact H2.out⟩
            case measure => simp [intOf]; omega
          · have hb0 : (f1 == i0) = false := beq_eq_false_iff_ne.2 (fun h => hid h.symm)
            have hmore : Hid (rmQ i0 (L.take (j + 1)) = rmQ i0 (L.take j) ++ [⟨f1, f2, f3, f4, f5⟩]) := Lib.hid (by rw [HTK.out, rmQ_snoc, if_neg (fun h => hid h.symm)])
            have hidn : ¬ f1 = i0 := fun h => hid h.symm
            obtain ⟨ii, hi, hz0, hz1, hz2⟩ := info_parts ord_info
            have c1 : k + 1 ≤ maxLen := by unfold maxLen; omega
            have c2 : (k + 1) * 40 ≤ 140737488355328 := by omega
            clear hid
            go_wp2_with (at_builtin; refine wpList_append_here rfl (.tmp 82) (.tmp 84) 35 rfl 0 28 ii (.agg #[.int .i64 0, .int .i64 0, .bool false, .int .u64 0, .int .u64 0]) 5 40 Try.underlying35 hi hz0 hz1 hz2 rfl (by decide) _ k (cellsO (rmQ i0 (L.take j))) rfl (HR.out.alloc _) ⟨w7.heap.size, 0, none⟩ 1 1 (cellsO [⟨f1, f2, f3, f4, f5⟩]) rfl rfl (ord_new w7 ⟨f1, f2, f3, f4, f5⟩ _) (cellsO_one _) c1 c2 (Nat.zero_le _) ?_; intro v' w8 hown hgr hfr; have h3 := (H2.out.alloc _).rowN_grow hown hgr hfr; obtain ⟨gr, cr', rfl⟩ := ownN_shape hown (Nat.succ_ne_zero _); have H3 := Lib.hid h3; clear h3 hown hgr hfr)
            go_roundw
            case rel => exact ⟨j + 1, k + 1, some ⟨gr, 0, none⟩, cr', by omega, rfl, by go_num, by rw [hmore.out, List.length_append, HKK.out]; rfl, by rw [hmore.out, cellsO_append]; exact H3.out⟩
            case measure => simp [intOf]; omega
        · obtain rfl : j = N := by omega
          have htN : L.take j = L := List.take_of_length_le (by rw [HLE.out]; exact Nat.le_refl _)
          rw [htN, HM.out] at hst hk
          obtain rfl : k = m := by rw [← hk, HMM.out]
          have HST := Lib.hid hst
          clear hst hk hgo htN
          go_wp2_with fail
          go_meet
          exact ⟨Ar, cr, rfl, HST.out⟩
    case rest =>
      obtain ⟨Ar, cr, rfl, hst⟩ := hcut
      obtain ⟨w7, rfl⟩ : ∃ w7 : World, w7 = wc := ⟨_, rfl⟩
      obtain ⟨_, _, qo, _⟩ := (hst.snd.snd.snd).blk
      have b0 := qo 0 (.int .i64 o1) rfl
      have HST := Lib.hid hst.assoc'.assoc'.fst
      clear hst qo H9
      go_upto_region 21 with fail
      go_cut [14, 58, 61, 63, 120] (fun _ _ _ _ c wx => c = .bool false ∧ wx = w7)
      case first =>
        by_cases h1 : 1 ≤ i0
        · by_cases h2 : i0 ≤ N
          · obtain rfl := ho1.out h1 h2
            have b1 : decide (1 ≤ o1) = true := decide_eq_true h1
            have b2 : decide (o1 ≤ (N : Int)) = true := decide_eq_true h2
            go_wp2_with fail
            go_meet
            exact ⟨by first | rfl | simp, rfl⟩
          · have b1 : decide (1 ≤ i0) = true := decide_eq_true h1
            have b2 : decide (i0 ≤ (N : Int)) = false := decide_eq_false h2
            go_wp2_with fail
            go_meet
            exact ⟨by first | rfl | simp, rfl⟩
        · have b1 : decide (1 ≤ i0) = false := decide_eq_false h1
          go_wp2_with fail
          go_meet
          exact ⟨by first | rfl | simp, rfl⟩
      case rest =>
        obtain ⟨rfl, hwc⟩ := hcut
        subst hwc
        clear b0
        have h8 : St w _ (star (RowN 28 5 (.slice Ar m cr) m (cellsO M)) (star (RV (.slice Ay m cy) m (cellsO M)) (T.IsQ (.pointer (some p)) up M))) := HST.out.assoc
        have H8 := Lib.hid h8
        have hm30 : Hid (m ≤ 100000) := Lib.hid (by rw [← HMM.out]; exact HLM.out)
        clear h8 HST
        go_upto_block 4 with fail
        go_cut [123] (fun _ wx => St w wx (star (RowN 28 5 (.slice Ar m cr) m (cellsO M)) (star (RV (.slice Ay m cy) m (cellsO M)) (T.IsQ (.pointer (some p)) up M))))
        case first =>
          go_wp2_with fail
          go_loopw [123] (fun i wr => ∃ j : Nat, j ≤ m ∧ i = .int .i64 j ∧ St w wr (star (RowN 28 5 (.slice Ar m cr) m (cellsO M)) (star (RV (.slice Ay m cy) m (cellsO M)) (T.IsQ (.pointer (some p)) up M)))) (fun i _ => m - (intOf i).toNat)
          case atStart => exact ⟨0, by omega, rfl, H8.out⟩
          case round =>
            obtain ⟨j, hj, rfl, hst⟩ := hrel
            clear H8
            by_cases hgo : j < m
            · have hm1 : m ≤ 100000 := hm30.out
              have hjl : j < M.length := by rw [HMM.out]; exact hgo
              obtain ⟨g, off, rfl, _, d0, d1, d2, d3, d4⟩ := Turns.rv_ord hst.swap hjl
              obtain ⟨g2, rfl, _, r0, r1, r2, r3, r4⟩ := row_ord hst.rowN hjl
              have hok := HGM.out.ok _ (List.getElem_mem hjl)
              have hneq : ∀ w' : World, (binOp .neq 28 (OrdV.val M[j]) (OrdV.val M[j])).run Try.prog w' = .ok (.bool false) w' := fun w' => by
                have := neq_ord hok hok w'
                rw [decide_eq_true rfl] at this
                exact this
              generalize M[j] = o at d0 d1 d2 d3 d4 r0 r1 r2 r3 r4 hneq
              obtain ⟨f1, f2, f3, f4, f5⟩ := o
              dsimp only at d0 d1 d2 d3 d4 r0 r1 r2 r3 r4
              unfold OrdV.val at hneq
              have hjn : (j : Int) < (m : Int) := by omega
              have hj0 : (0 : Int) ≤ (j : Int) := by omega
              have HS := Lib.hid hst
              clear hst hok
              go_wp2_with fail
              go_quiet (fail)
              go_wp2_with fail
              go_roundw
              case rel => exact ⟨j + 1, by omega, by go_num, HS.out.more (below_drewN (Below.refl _ _) _)⟩
              case measure => simp [intOf]; omega
            · obtain rfl : j = m := by omega
              have HS := Lib.hid hst
              clear hst hgo
              go_wp2_with fail
              go_meet
              exact HS.out
        case rest =>
          obtain ⟨w8, rfl⟩ : ∃ w8 : World, w8 = wc := ⟨_, rfl⟩
          have um := pn_umask15 n
          obtain ⟨nn, hnn⟩ : ∃ x, n % 16 = x := ⟨_, rfl⟩
          rw [hnn] at um
          have hnr : U64 nn := by have := HNU.out; exact ⟨by omega, by omega⟩
          have HNN2 := Lib.hid hnr
          have h9 : St w w8 (star (T.IsQ (.pointer (some p)) up M) (RowN 28 5 (.slice Ar m cr) m (cellsO M))) := (hcut.swap.snd).comm
          have HK := Lib.hid (h9.qcut nn HGM.out HLM.out hnr)
          clear hcut hnn hnr h9 H8
          go_wp2_with fail
          refine HK.out.mono ?_
          rintro e w9 ⟨rfl, h10⟩
          have hgc := HGM.out.cut HNN2.out
          obtain ⟨Q, hQ⟩ : ∃ Q, cutQ nn M = Q := ⟨_, rfl⟩
          have hQl : Q.length = m := by rw [← hQ, cutQ_length]; exact HMM.out
          rw [hQ] at h10 hgc
          have HK2 := Lib.hid (h10.qall hgc (by rw [hQl]; exact hm30.out))
          have HQ := Lib.hid hQ; have HQL := Lib.hid hQl; have HGC := Lib.hid hgc
          clear h10 hgc hQ hQl HK
          go_wp2_with fail
          refine HK2.out.mono ?_
          rintro e w10 ⟨z, rfl, h11⟩
          have hQl := HQL.out
          obtain ⟨Az, cz, rfl, _, _, _⟩ := h11.rv
          rw [hQl] at h11
          have H11 := Lib.hid h11
          simp only [hQl]
          clear h11 HK2 hQl
          go_upto_block 6 with fail
          go_cut [150] (fun _ wx => St w wx (star (RV (.slice Az m cz) m (cellsO Q)) (star (T.IsQ (.pointer (some p)) up Q) (RowN 28 5 (.slice Ar m cr) m (cellsO M)))))
          case first =>
            go_wp2_with fail
            go_loopw [150] (fun i wr => ∃ j : Nat, j ≤ m ∧ i = .int .i64 j ∧ St w wr (star (RV (.slice Az m cz) m (cellsO Q)) (star (T.IsQ (.pointer (some p)) up Q) (RowN 28 5 (.slice Ar m cr) m (cellsO M))))) (fun i _ => m - (intOf i).toNat)
            case atStart => exact ⟨0, by omega, rfl, H11.out⟩
            case round =>
              obtain ⟨j, hj, rfl, hst⟩ := hrel
              clear H11
              by_cases hgo : j < m
              · have hm1 : m ≤ 100000 := hm30.out
                have hjl : j < M.length := by rw [HMM.out]; exact hgo
                have hjq : j < Q.length := by rw [HQL.out]; exact hgo
                obtain ⟨g, off, rfl, hgz, d0, d1, d2, d3, d4⟩ := Turns.rv_ord hst hjq
                obtain ⟨g2, rfl, _, r0, r1, r2, r3, r4⟩ := row_ord (hst.snd.comm).rowN hjl
                have hok := HGC.out.ok _ (List.getElem_mem hjq)
                have hcq : Q[j] = if j = 0 ∧ nn ≤ M[j].qty then { M[j] with qty := M[j].qty - nn } else M[j] := by
                  have hQ := HQ.out
                  subst hQ
                  rcases M with _ | ⟨x, t⟩
                  · cases hjl
                  · rcases j with _ | j
                    · simp only [cutQ_cons, List.getElem_cons_zero, true_and]
                      split <;> rfl
                    · simp only [List.getElem_cons_succ, Nat.succ_ne_zero, false_and, if_false, cutQ_cons]
                      split <;> rfl
                have hoM := HGM.out.ok _ (List.getElem_mem hjl)
                have hneq : ∀ w' : World, (binOp .neq 28 (OrdV.val Q[j]) (OrdV.val Q[j])).run Try.prog w' = .ok (.bool false) w' := fun w' => by
                  have := neq_ord hok hok w'
                  rw [decide_eq_true rfl] at this
                  exact this
                obtain ⟨⟨f1, f2, f3, f4, f5⟩, hfo⟩ : ∃ o, Q[j] = o := ⟨_, rfl⟩
                rw [hfo] at d0 d1 d2 d3 d4 hneq hcq
                unfold OrdV.val at hneq
                generalize M[j] = v at r0 r1 r2 r3 r4 hcq hoM
                obtain ⟨v1, v2, v3, v4, v5⟩ := v
                dsimp only at r0 r1 r2 r3 r4 hcq
                have hjn : (j : Int) < (m : Int) := by omega
                have hj0 : (0 : Int) ≤ (j : Int) := by omega
                obtain ⟨bv, hbv, h2⟩ := hst.local5 (⟨v1, v2, v3, v4, v5⟩ : OrdV).arr 28
                have HD : Hid (∀ w' : World, St w w' (star (RV (.slice (some ⟨g, off, none⟩) m cz) m (cellsO Q)) (star (T.IsQ (.pointer (some p)) up Q) (RowN 28 5 (.slice (some ⟨g2, 0, none⟩) m cr) m (cellsO M)))) → w'.cell? ⟨g, off + j * 5, none⟩ = some (.int .i64 f1) ∧ w'.cell? ⟨g, off + j * 5 + 1, none⟩ = some (.int .i64 f2) ∧ w'.cell? ⟨g, off + j * 5 + 2, none⟩ = some (.bool f3) ∧ w'.cell? ⟨g, off + j * 5 + 3, none⟩ = some (.int .u64 f4) ∧ w'.cell? ⟨g, off + j * 5 + 4, none⟩ = some (.int .u64 f5)) := Lib.hid fun w' h => by
                  obtain ⟨g', off', e, _, q0, q1, q2, q3, q4⟩ := Turns.rv_ord h hjq
                  injection e with e
                  injection e with e1 e2 _
                  subst e1; subst e2
                  rw [hfo] at q0 q1 q2 q3 q4
                  exact ⟨q0, q1, q2, q3, q4⟩
                have H2 := Lib.hid h2
                have hv5 : U64 v5 := hoM.2.2.2
                have hn5 := HNN2.out
                clear hst h2 hok hoM d0 d1 d2 d3 d4 hfo
                go_upto_region 38 with fail
                rw [← hbv]
                clear hbv r0 r1 r2 r3 r4
                generalize wr.alloc (.cells (⟨v1, v2, v3, v4, v5⟩ : OrdV).arr 28) = w11 at H2 ⊢
                obtain ⟨_, _, qb, zb⟩ := H2.out.blk
                have b4 := qb 4 (.int .u64 v5) rfl
                have z4 := zb 4
                clear qb zb
                by_cases hch : j = 0 ∧ nn ≤ v5
                · rw [if_pos hch] at hcq
                  obtain ⟨rfl, hle⟩ := hch
                  injection hcq with e1 e2 e3 e4 e5
                  subst e1; subst e2; subst e3; subst e4; subst e5
                  have hwr : IntKind.u64.wrap (v5 - nn) = v5 - nn := IntWalk.u64_in _ (by omega)
                  have c1 : decide (nn ≤ v5) = true := decide_eq_true hle
                  have H3 := Lib.hid (H2.out.blk_set 4 (.int .u64 (v5 - nn)))
                  clear hle
                  go_upto_region 40 with fail
                  generalize w11.setCell ⟨bv, 4, none⟩ (.int .u64 (v5 - nn)) = w12 at H3 ⊢
                  obtain ⟨_, _, qv, _⟩ := H3.out.blk
                  have y0 := qv 0 (.int .i64 f1) rfl
                  have y1 := qv 1 (.int .i64 f2) rfl
                  have y2 := qv 2 (.bool f3) rfl
                  have y3 := qv 3 (.int .u64 f4) rfl
                  have y4 := qv 4 (.int .u64 (v5 - nn)) rfl
                  obtain ⟨d0, d1, d2, d3, d4⟩ := HD.out _ H3.out.snd
                  simp only [Nat.zero_mul, Nat.add_zero] at d0 d1 d2 d3 d4
                  clear qv
                  go_quiet (fail)
                  go_wp2_with fail
                  go_roundw
                  case rel => exact ⟨1, by omega, by go_num, H3.out.snd.more (below_drewN (Below.refl _ _) _)⟩
                  case measure => simp [intOf]; omega
                · rw [if_neg hch] at hcq
                  injection hcq with e1 e2 e3 e4 e5
                  subst e1; subst e2; subst e3; subst e4; subst e5
                  have H3 := H2
                  by_cases hj00 : j = 0
                  · subst hj00
                    have c1 : decide (nn ≤ f5) = false := decide_eq_false (fun h => hch ⟨rfl, h⟩)
                    clear hch
                    go_upto_region 40 with fail
                    obtain ⟨_, _, qv, _⟩ := H3.out.blk
                    have y0 := qv 0 (.int .i64 f1) rfl
                    have y1 := qv 1 (.int .i64 f2) rfl
                    have y2 := qv 2 (.bool f3) rfl
                    have y3 := qv 3 (.int .u64 f4) rfl
                    have y4 := qv 4 (.int .u64 f5) rfl
                    obtain ⟨d0, d1, d2, d3, d4⟩ := HD.out _ H3.out.snd
                    simp only [Nat.zero_mul, Nat.add_zero] at d0 d1 d2 d3 d4
                    clear qv
                    go_quiet (fail)
                    go_wp2_with fail
                    go_roundw
                    case rel => exact ⟨1, by omega, by go_num, H3.out.snd.more (below_drewN (Below.refl _ _) _)⟩
                    case measure => simp [intOf]; omega
                  · have c0 : ((j : Int) == 0) = false := beq_eq_false_iff_ne.2 (by omega)
                    have c00 : ¬ j = 0 := hj00
                    clear hch
                    go_upto_region 40 with fail
                    obtain ⟨_, _, qv, _⟩ := H3.out.blk
                    have y0 := qv 0 (.int .i64 f1) rfl
                    have y1 := qv 1 (.int .i64 f2) rfl
                    have y2 := qv 2 (.bool f3) rfl
                    have y3 := qv 3 (.int .u64 f4) rfl
                    have y4 := qv 4 (.int .u64 f5) rfl
                    obtain ⟨d0, d1, d2, d3, d4⟩ := HD.out _ H3.out.snd
                    clear qv
                    go_quiet (fail)
                    go_wp2_with fail
                    go_roundw
                    case rel => exact ⟨j + 1, by omega, by go_num, H3.out.snd.more (below_drewN (Below.refl _ _) _)⟩
                    case measure => simp [intOf]; omega
              · obtain rfl : j = m := by omega
                have HS := Lib.hid hst
                clear hst hgo
                go_wp2_with fail
                go_meet
                exact HS.out
          case rest =>
            have HB := Lib.hid hcut.below
            have HSZ := Lib.hid hcut.size
            clear hcut H11
            go_wp2_with fail
            refine (pawake_any T _).mono ?_
            rintro e w13 ⟨rfl, hb13⟩
            have HB2 := Lib.hid hb13
            clear hb13
            go_wp2_with fail
            go_ret
            exact ⟨rfl, HB.out.trans (HB2.out.mono HSZ.out)⟩
end Go.Proofs.Ytkbebllkjmccoaa
