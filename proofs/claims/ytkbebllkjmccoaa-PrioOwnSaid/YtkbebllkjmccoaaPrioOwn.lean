/- PrioOwn answers true, and makes only new memory. Conditions: prio's calls are as their contracts say; the row lies in memory. -/
import Derived.Test.YtkbebllkjmccoaaPrioEq
import Derived.Test.YtkbebllkjmccoaaPrioAwake
import Derived.Test.YtkbebllkjmccoaaPrioNums
import Derived.LoopTactic
import Derived.RegionTactic
import Derived.Deep.CutBlock
import Derived.Deep.DeepCutAuto
import Derived.Deep.RegionHeld3
namespace Go.Proofs.Ytkbebllkjmccoaa
open Go.RowKit Go.WideShapes

/-- What came in: as many, numbered from 1 on, few of each. -/
def AllW (i : Nat) (L : Ords) : Prop := L.length = i ∧ ∀ o ∈ L, (1 ≤ o.id ∧ o.id ≤ i) ∧ (1 ≤ o.qty ∧ o.qty ≤ 16)
theorem allW_push {up : Bool} {i : Nat} {L : Ords} {o : OrdV} (h : AllW i L) (hid : o.id = (i : Int) + 1) (hq : 1 ≤ o.qty ∧ o.qty ≤ 16) :
    (∀ p ∈ L, p.id ≠ o.id) ∧ AllW (i + 1) (insQ up o L) := by
  refine ⟨fun p hp => ?_, ⟨by rw [insQ_length, h.1], fun p hp => ?_⟩⟩
  · have := (h.2 p hp).1
    omega
  · rcases mem_insQ.1 hp with rfl | hp
    · exact ⟨by omega, hq⟩
    · have := h.2 p hp
      exact ⟨by omega, this.2⟩
theorem find_head (h : OrdV) (t : Ords) : findQ h.id (h :: t) = some h := by
  unfold findQ
  rw [List.find?_cons_of_pos]
  unfold isId
  exact beq_self_eq_true _

set_option maxRecDepth 100000 in
set_option maxHeartbeats 16000000 in
theorem pown_some (T : PrioApi) (up : Bool) (A : Option Addr) (cap : Nat) (hs : List Int) (n : Int) (w : World) (hlh : hs.length ≤ 9223372036854775807) (hh : NumsAt w A hs) (hn : U64 n) :
    Calls Try.prog 5 #[.bool up, .slice A hs.length cap, .int .u64 n] w fun e w' => e = .returned (.bool true) ∧ Below w.heap.size w w' := by
  obtain ⟨nh, hnh⟩ : ∃ k, hs.length = k := ⟨_, rfl⟩
  rw [hnh] at hlh ⊢
  obtain ⟨N, hN⟩ : ∃ N : Nat, N = min nh 20 := ⟨_, rfl⟩
  have hNn : N ≤ nh ∧ N ≤ 20 := by omega
  have hNs : Hid (N ≤ hs.length) := Lib.hid (by omega)
  have hN20 := hNn.2
  have hNn1 := hNn.1
  have hmin : (if 20 < (nh : Int) then (20 : Int) else (nh : Int)) = (N : Int) := by split <;> omega
  have HNH := Lib.hid hnh; have HH := Lib.hid hh; have HNU := Lib.hid hn
  clear hnh hh hN hNn hn
  go_enter Try.func5, Try.ntmps5
  go_wp2_with fail
  refine (st_queue T (St.start w w (Below.refl _ _)) up).mono ?_
  rintro e w1 ⟨p, rfl, h1⟩
  have H1 := Lib.hid h1
  clear h1
  go_upto_block 0 with fail
  go_cut [9] (fun _ wx => ∃ L, GoodQ up L ∧ AllW N L ∧ St w wx (star (T.IsQ (.pointer (some p)) up L) nothing))
  case first =>
    go_wp2_with fail
    go_loopw [9] (fun i wr => ∃ (k : Nat) (L : Ords), k ≤ N ∧ i = .int .i64 k ∧ GoodQ up L ∧ AllW k L ∧ St w wr (star (T.IsQ (.pointer (some p)) up L) nothing)) (fun i _ => N - (intOf i).toNat)
    case atStart => exact ⟨0, [], by omega, rfl, goodQ_nil up, ⟨rfl, fun o h => by cases h⟩, H1.out⟩
    case round =>
      obtain ⟨k, L, hk, rfl, hg, hL, hst⟩ := hrel
      have HST := Lib.hid hst; have HG := Lib.hid hg; have HL := Lib.hid hL
      clear hst hg hL H1
      by_cases hgo : k < N
      · have hqh : k < hs.length := Nat.lt_of_lt_of_le hgo hNs.out
        obtain ⟨b, off, rfl, hb, hc, hu⟩ := HH.out.at hqh
        generalize hs[k] = x at hc hu
        obtain ⟨y, hy⟩ : ∃ y, x % 8 = y := ⟨_, rfl⟩
        obtain ⟨z, hz⟩ : ∃ z, x / 8 % 16 = z := ⟨_, rfl⟩
        have um := pn_umask7 x
        have um2 := pn_umask15 (x / 8)
        rw [hy] at um
        rw [hz] at um2
        have hzr : 0 ≤ z ∧ z < 16 := by omega
        have hwr : IntKind.u64.wrap (z + 1) = z + 1 := IntWalk.u64_in _ (by omega)
        have hkn : (k : Int) < nh := by omega
        have hk0 : (0 : Int) ≤ (k : Int) := by omega
        have hwk : IntKind.i64.wrap ((k : Int) + 1) = (k : Int) + 1 := IntWalk.i64_in _ (by omega)
        have hok : (⟨(k : Int) + 1, 0, false, y, z + 1⟩ : OrdV).ok := ok_small (by show I64 ((k : Int) + 1); exact ⟨by omega, by omega⟩) (by show I64 (0 : Int); decide) (by show U64 y; exact ⟨by omega, by omega⟩) (by show U64 (z + 1); exact ⟨by omega, by omega⟩)
        obtain ⟨hid, hall⟩ := allW_push (up := up) (o := ⟨(k : Int) + 1, 0, false, y, z + 1⟩) HL.out rfl ⟨by show 1 ≤ z + 1; omega, by show z + 1 ≤ 16; omega⟩
        have K := (HST.out.drew).qpush _ HG.out (by rw [HL.out.1]; omega) hok hid
        have HG2 := Lib.hid (HG.out.push hok hid)
        obtain ⟨L2, hL2⟩ : ∃ l, insQ up (⟨(k : Int) + 1, 0, false, y, z + 1⟩ : OrdV) L = l := ⟨_, rfl⟩
        rw [hL2] at K hall HG2
        unfold OrdV.val at K
        have hcw := (HST.out.below.cell (p := ⟨b, off + k, none⟩) hb).trans hc
        have HK := Lib.hid K; have HA := Lib.hid hall; have HC := Lib.hid hc
        have e0 : wr.drew.cell? ⟨b, off + k, none⟩ = some (.int .u64 x) := hcw
        clear hid hall hc hu hok K hL2 HST HG HL hy hz hcw
        go_wp2_with fail
        go_region_held3 (fun w' : World => w'.cell? ⟨b, off + k, none⟩ = some (.int .u64 x)) (first | exact e1 | exact e0) (first
          | (go_at_call 8; refine HK.out.mono ?_; rintro e w8 ⟨rfl, h8⟩; have e1 := (h8.below.cell (p := ⟨b, off + k, none⟩) hb).trans HC.out; have H8 := Lib.hid h8; clear h8))
        all_goals
          go_wp2_with fail
          go_roundw
          case rel => exact ⟨k + 1, L2, by omega, by go_num, HG2.out, HA.out, H8.out⟩
          case measure => simp [intOf]; omega
      · obtain rfl : k = N := by omega
        clear hgo
        go_wp2_with fail
        go_meet
        exact ⟨L, HG.out, HL.out, HST.out⟩
  case rest =>
    obtain ⟨L, hg, hL, hst⟩ := hcut
    obtain ⟨w2, rfl⟩ : ∃ w2 : World, w2 = wc := ⟨_, rfl⟩
    have HG := Lib.hid hg; have HL := Lib.hid hL
    have K := hst.qall hg (by rw [hL.1]; omega)
    have hlen := hL.1
    have HK := Lib.hid K
    clear hg hL hst K H1
    go_wp2_with fail
    refine HK.out.mono ?_
    rintro e w3 ⟨x, rfl, h3⟩
    obtain ⟨Ax, cx, rfl, hcx, _, hx⟩ := h3.rv
    rw [hlen] at h3
    rw [hlen] at hcx
    have H3 := Lib.hid h3; have HLE := Lib.hid hlen
    simp only [hlen]
    clear h3 HK hlen hx
    go_upto_block 2 with fail
    go_cut [53] (fun _ wx => St w wx (star (T.IsQ (.pointer (some p)) up L) nothing))
    case first =>
      go_wp2_with fail
      go_loopw [53] (fun i wr => ∃ (j : Nat) (xs : List Value), j ≤ N ∧ i = .int .i64 j ∧ xs.length = N * 5 ∧ St w wr (star (RV (.slice Ax N cx) N xs) (star (T.IsQ (.pointer (some p)) up L) nothing))) (fun i _ => N - (intOf i).toNat)
      case atStart => exact ⟨0, cellsO L, by omega, rfl, by rw [cellsO_length, HLE.out], H3.out⟩
      case round =>
        obtain ⟨j, xs, hj, rfl, hxl, hst⟩ := hrel
        clear H3
        by_cases hgo : j < N
        · obtain ⟨A2, cap2, e, _, _, hx⟩ := hst.rv
          injection e with e1 _ e2
          subst e1; subst e2
          rcases hx with hx | ⟨gx, off, rfl, hlt, hx⟩
          · rw [hx] at hxl; simp at hxl; omega
          obtain ⟨d0, f0⟩ := hx (j * 5 + 4) (by omega)
          have hset := hst.rv_set (j * 5 + 4) (by omega) (.int .u64 77)
          have hxs2 : (xs.set (j * 5 + 4) (.int .u64 77)).length = N * 5 := by rw [List.length_set]; exact hxl
          rw [← Nat.add_assoc] at d0 f0 hset
          have HX2 := Lib.hid hxs2; have HSET := Lib.hid hset
          generalize xs[j * 5 + 4] = u at d0
          clear hst hx hset hxs2 hxl
          go_wp2_with fail
          go_roundw
          case rel => exact ⟨j + 1, _, by omega, by go_num, HX2.out, HSET.out⟩
          case measure => simp [intOf]; omega
        · obtain rfl : j = N := by omega
          have HST := Lib.hid hst.snd
          clear hst hgo
          go_wp2_with fail
          go_meet
          exact HST.out
    case rest =>
      obtain ⟨w4, rfl⟩ : ∃ w4 : World, w4 = wc := ⟨_, rfl⟩
      have um := pn_umask7 n
      obtain ⟨n8, hn8⟩ : ∃ m, n % 8 = m := ⟨_, rfl⟩
      rw [hn8] at um
      have hn8r : U64 n8 := by have := HNU.out; exact ⟨by omega, by omega⟩
      have HN8 := Lib.hid hn8r
      clear hn8 hn8r H3
      rcases L with _ | ⟨h, t⟩
      · have hN0 : N = 0 := HLE.out.symm
        subst hN0
        have HK := Lib.hid (hcut.qpeek (goodQ_nil up) (by decide))
        clear hcut HG HL HLE
        go_wp2_with fail
        refine HK.out.mono ?_
        rintro e w5 ⟨⟨o1, o2, o3, o4, o5⟩, _, rfl, h5, _⟩
        obtain ⟨bo, hbo, h6⟩ := h5.local5 #[.int .i64 o1, .int .i64 o2, .bool o3, .int .u64 o4, .int .u64 o5] 28
        have K := h6.swap.qcut n8 (goodQ_nil up) (by decide) HN8.out
        rw [show cutQ n8 [] = [] from rfl] at K
        have HK2 := Lib.hid K
        simp only [OrdV.val, List.isEmpty_nil, Bool.not_true]
        clear h5 h6 HK K
        go_wp2_with fail
        rw [← hbo]
        clear hbo
        refine HK2.out.mono ?_
        rintro e w6 ⟨rfl, h7⟩
        have HK3 := Lib.hid (h7.qlen (by decide))
        clear h7 HK2
        go_wp2_with fail
        refine HK3.out.mono ?_
        rintro e w7 ⟨rfl, h8, _⟩
        have HB := Lib.hid h8.below
        have HSZ := Lib.hid h8.size
        clear h8 HK3
        go_wp2_with fail
        refine (pawake_any T _).mono ?_
        rintro e w9 ⟨rfl, hb9⟩
        have HB9 := Lib.hid hb9
        clear hb9
        go_wp2_with fail
        go_ret
        exact ⟨rfl, HB.out.trans (HB9.out.mono HSZ.out)⟩
      · have hlh : (h :: t).length ≤ 100000 := by have := HLE.out; omega
        have hNp : 0 < N := by have := HLE.out; simp at this; omega
        have hqt := (HL.out.2 h (by simp)).2
        have hok := HG.out.ok h (by simp)
        have HLH := Lib.hid hlh; have HQT := Lib.hid hqt; have HOK := Lib.hid hok
        obtain ⟨i1, i2, i3, i4, i5⟩ := h
        have HK := Lib.hid (hcut.qpeek_cons HG.out hlh)
        clear hcut hlh hqt hok
        go_wp2_with fail
        refine HK.out.mono ?_
        rintro e w5 ⟨rfl, h5, _⟩
        obtain ⟨bo, hbo, h6⟩ := h5.local5 #[.int .i64 i1, .int .i64 i2, .bool i3, .int .u64 i4, .int .u64 i5] 28
        have K := h6.swap.qcut n8 HG.out HLH.out HN8.out
        obtain ⟨q5, hq5⟩ : ∃ q, (if n8 ≤ i5 then i5 - n8 else i5) = q := ⟨_, rfl⟩
        have hcq : cutQ n8 (⟨i1, i2, i3, i4, i5⟩ :: t) = ⟨i1, i2, i3, i4, q5⟩ :: t := by
          rw [cutQ_cons, ← hq5]
          split <;> rfl
        have hg2 := HG.out.cut HN8.out
        rw [hcq] at K hg2
        have HK2 := Lib.hid K; have HG2 := Lib.hid hg2; have HQ5 := Lib.hid hq5
        simp only [OrdV.val]
        clear h5 h6 HK K hcq hg2 hq5
        go_wp2_with fail
        rw [← hbo]
        clear hbo
        refine HK2.out.mono ?_
        rintro e w6 ⟨rfl, h7⟩
        obtain ⟨_, _, q, _⟩ := h7.swap.blk
        have o0 := q 0 (.int .i64 i1) rfl
        have o4 := q 4 (.int .u64 i5) rfl
        have H7 := Lib.hid h7
        have hi5 : U64 i5 := HOK.out.2.2.2
        have hn8u := HN8.out
        clear h7 HK2 q
        go_upto_if 88 with fail
        go_cut [14] (fun x wx => x = .int .u64 q5 ∧ wx = w6)
        case first =>
          by_cases hle : n8 ≤ i5
          · have b1 : decide (n8 ≤ i5) = true := decide_eq_true hle
            have hwr : IntKind.u64.wrap (i5 - n8) = i5 - n8 := IntWalk.u64_in _ (by omega)
            have hq : q5 = i5 - n8 := by rw [← HQ5.out, if_pos hle]
            subst hq
            go_wp2_with fail
            go_meet
            exact ⟨rfl, rfl⟩
          · have b1 : decide (n8 ≤ i5) = false := decide_eq_false hle
            have hq : q5 = i5 := by rw [← HQ5.out, if_neg hle]
            subst hq
            go_wp2_with fail
            go_meet
            exact ⟨rfl, rfl⟩
        case rest =>
          obtain ⟨rfl, hwc⟩ := hcut
          subst hwc
          have hlh2 : (⟨i1, i2, i3, i4, q5⟩ :: t : Ords).length ≤ 100000 := HLH.out
          have HK := Lib.hid (H7.out.qpeek_cons HG2.out hlh2)
          have HL2 := Lib.hid hlh2
          clear H7 hlh2 hi5 hn8u o4
          go_wp2_with fail
          refine HK.out.mono ?_
          rintro e w7 ⟨rfl, h8, _⟩
          obtain ⟨bp, hbp, h9⟩ := h8.local5 #[.int .i64 i1, .int .i64 i2, .bool i3, .int .u64 i4, .int .u64 q5] 28
          obtain ⟨_, _, q, _⟩ := h9.third.blk
          have o0 := q 0 (.int .i64 i1) rfl
          have K := h9.swap.qfind i1 HG2.out HL2.out HOK.out.1
          have HK2 := Lib.hid K
          simp only [OrdV.val]
          clear h8 h9 HK K q
          go_wp2_with fail
          rw [← hbp]
          clear hbp
          refine HK2.out.mono ?_
          rintro e w8 ⟨o, ho, rfl, h10, _⟩
          obtain rfl := ho _ (find_head _ _)
          obtain ⟨bf, hbf, h11⟩ := h10.local5 #[.int .i64 i1, .int .i64 i2, .bool i3, .int .u64 i4, .int .u64 q5] 28
          have HK3 := Lib.hid (h11.swap.qall HG2.out HL2.out)
          have hfs : (findQ i1 (⟨i1, i2, i3, i4, q5⟩ :: t)).isSome = true := by rw [find_head ⟨i1, i2, i3, i4, q5⟩ t]; rfl
          simp only [OrdV.val, hfs]
          clear h10 h11 HK2 ho hfs
          go_wp2_with fail
          rw [← hbf]
          clear hbf
          refine HK3.out.mono ?_
          rintro e w9 ⟨y, rfl, h12⟩
          obtain ⟨Ay, cy, rfl, hcy, _, hy⟩ := h12.rv
          rcases hy with hy | ⟨gy, oy, rfl, _, _⟩
          · have := congrArg List.length hy; rw [cellsO_length] at this; simp at this
          have fact : ∀ w' : World, St w w' (star (RV (.slice (some ⟨gy, oy, none⟩) (t.length + 1) cy) (t.length + 1) (cellsO (⟨i1, i2, i3, i4, q5⟩ :: t))) (star (T.IsQ (.pointer (some p)) up (⟨i1, i2, i3, i4, q5⟩ :: t)) (star (Blk bf #[.int .i64 i1, .int .i64 i2, .bool i3, .int .u64 i4, .int .u64 q5] 28) (star (Blk bp #[.int .i64 i1, .int .i64 i2, .bool i3, .int .u64 i4, .int .u64 q5] 28) (star (Blk bo #[.int .i64 i1, .int .i64 i2, .bool i3, .int .u64 i4, .int .u64 i5] 28) nothing))))) →
              (w'.cell? ⟨bp, 0, none⟩ = some (.int .i64 i1) ∧
            w'.cell? ⟨bp, 1, none⟩ = some (.int .i64 i2) ∧
            w'.cell? ⟨bp, 2, none⟩ = some (.bool i3) ∧
            w'.cell? ⟨bp, 3, none⟩ = some (.int .u64 i4) ∧
            w'.cell? ⟨bp, 4, none⟩ = some (.int .u64 q5) ∧
            w'.cell? ⟨bf, 0, none⟩ = some (.int .i64 i1) ∧
            w'.cell? ⟨bf, 1, none⟩ = some (.int .i64 i2) ∧
            w'.cell? ⟨bf, 2, none⟩ = some (.bool i3) ∧
            w'.cell? ⟨bf, 3, none⟩ = some (.int .u64 i4) ∧
            w'.cell? ⟨bf, 4, none⟩ = some (.int .u64 q5) ∧
            w'.cell? ⟨bo, 0, none⟩ = some (.int .i64 i1) ∧
            w'.cell? ⟨bo, 4, none⟩ = some (.int .u64 i5) ∧
            w'.cell? ⟨gy, oy, none⟩ = some (.int .i64 i1) ∧
            w'.cell? ⟨gy, oy + 1, none⟩ = some (.int .i64 i2) ∧
            w'.cell? ⟨gy, oy + 2, none⟩ = some (.bool i3) ∧
            w'.cell? ⟨gy, oy + 3, none⟩ = some (.int .u64 i4) ∧
            w'.cell? ⟨gy, oy + 4, none⟩ = some (.int .u64 q5)) := fun w' h => by
            obtain ⟨_, _, e, _, _, hx⟩ := h.rv
            injection e with e1 _ e2
            rcases hx with hx | ⟨g2, o2, e3, _, hx⟩
            · have := congrArg List.length hx; rw [cellsO_length] at this; simp at this
            rw [← e1] at e3
            injection e3 with e3
            injection e3 with e3 e4 _
            subst e3; subst e4
            obtain ⟨_, _, qf, _⟩ := h.third.blk
            obtain ⟨_, _, qp, _⟩ := h.snd.snd.swap.blk
            obtain ⟨_, _, qo, _⟩ := h.snd.snd.third.blk
            have y0 := (hx 0 (by rw [cellsO_length, List.length_cons]; omega)).1
            have y1 := (hx 1 (by rw [cellsO_length, List.length_cons]; omega)).1
            have y2 := (hx 2 (by rw [cellsO_length, List.length_cons]; omega)).1
            have y3 := (hx 3 (by rw [cellsO_length, List.length_cons]; omega)).1
            have y4 := (hx 4 (by rw [cellsO_length, List.length_cons]; omega)).1
            exact ⟨qp 0 _ rfl, qp 1 _ rfl, qp 2 _ rfl, qp 3 _ rfl, qp 4 _ rfl, qf 0 _ rfl, qf 1 _ rfl, qf 2 _ rfl, qf 3 _ rfl, qf 4 _ rfl, qo 0 _ rfl, qo 4 _ rfl, y0, y1, y2, y3, y4⟩
          have HF := Lib.hid fact
          have e0 := fact _ h12.drew
          have HB := Lib.hid h12.drew.below
          have HSZ := Lib.hid h12.drew.size
          have hq77 : (i5 == 77) = false := beq_eq_false_iff_ne.2 (by have := HQT.out; omega)
          have heq : ∀ w' : World, (binOp .eql 28 (.agg #[.int .i64 i1, .int .i64 i2, .bool i3, .int .u64 i4, .int .u64 q5]) (.agg #[.int .i64 i1, .int .i64 i2, .bool i3, .int .u64 i4, .int .u64 q5])).run Try.prog w' = .ok (.bool true) w' := fun w' => by
            have hok := HG2.out.ok _ (List.mem_cons_self ..)
            have := eql_ord hok hok w'
            rw [decide_eq_true rfl] at this
            exact this
          have H12 := Lib.hid h12.drew
          have hlen2 : ((⟨i1, i2, i3, i4, q5⟩ : OrdV) :: t).length = N := HLE.out
          clear h12 fact HK3 o0
          have hq77n : ¬ i5 = 77 := by have := HQT.out; omega
          simp only [hlen2]
          clear hlen2
          go_upto_region 28 with fail
          go_region_held3 (fun w' : World => (w'.cell? ⟨bp, 0, none⟩ = some (.int .i64 i1) ∧
            w'.cell? ⟨bp, 1, none⟩ = some (.int .i64 i2) ∧
            w'.cell? ⟨bp, 2, none⟩ = some (.bool i3) ∧
            w'.cell? ⟨bp, 3, none⟩ = some (.int .u64 i4) ∧
            w'.cell? ⟨bp, 4, none⟩ = some (.int .u64 q5) ∧
            w'.cell? ⟨bf, 0, none⟩ = some (.int .i64 i1) ∧
            w'.cell? ⟨bf, 1, none⟩ = some (.int .i64 i2) ∧
            w'.cell? ⟨bf, 2, none⟩ = some (.bool i3) ∧
            w'.cell? ⟨bf, 3, none⟩ = some (.int .u64 i4) ∧
            w'.cell? ⟨bf, 4, none⟩ = some (.int .u64 q5) ∧
            w'.cell? ⟨bo, 0, none⟩ = some (.int .i64 i1) ∧
            w'.cell? ⟨bo, 4, none⟩ = some (.int .u64 i5) ∧
            w'.cell? ⟨gy, oy, none⟩ = some (.int .i64 i1) ∧
            w'.cell? ⟨gy, oy + 1, none⟩ = some (.int .i64 i2) ∧
            w'.cell? ⟨gy, oy + 2, none⟩ = some (.bool i3) ∧
            w'.cell? ⟨gy, oy + 3, none⟩ = some (.int .u64 i4) ∧
            w'.cell? ⟨gy, oy + 4, none⟩ = some (.int .u64 q5))) (first | exact e1 | exact e0) (first
            | (go_at_call 12; refine (pawake_any T _).mono ?_; rintro e w10 ⟨rfl, hb10⟩; have e1 := HF.out _ (H12.out.more hb10); have HB2 := Lib.hid hb10; clear hb10))
          all_goals
            go_wp2_with fail
            go_ret
            exact ⟨by first | rfl | (simp; exact hq77n), HB.out.trans (HB2.out.mono HSZ.out)⟩
end Go.Proofs.Ytkbebllkjmccoaa
