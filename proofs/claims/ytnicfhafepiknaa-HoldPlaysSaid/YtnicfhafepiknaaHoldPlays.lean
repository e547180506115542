/- HoldPlays answers true, and makes only new memory. Conditions: acct's and hold's calls are as their contracts say; the row lies in memory. -/
import Derived.Test.YtnicfhafepiknaaHoldAwake
import Derived.Test.YtnicfhafepiknaaHoldRef4
import Derived.Test.YtnicfhafepiknaaFlat
import Derived.LoopTactic
import Derived.RegionTactic
import Derived.Deep.CutBlock
import Derived.Deep.DeepCutAuto
import Derived.Deep.RegionHeld3
import Derived.Laws.BitsLemmas
namespace Go.Proofs.Ytnicfhafepiknaa
open Go.RowKit Go.WideShapes

theorem hp_mask3 (n : Int) : bits .and .i64 n 3 = n % 4 := by
  have key : (BitVec.ofInt 64 n &&& BitVec.ofInt 64 3).toNat = (n % ((2 ^ 64 : Nat) : Int)).toNat % 2 ^ 2 := by
    rw [BitVec.toNat_and, BitVec.toNat_ofInt, show (BitVec.ofInt 64 3).toNat = 2 ^ 2 - 1 by decide, Nat.and_two_pow_sub_one_eq_mod]
  show IntKind.i64.wrap ((BitVec.ofInt 64 n &&& BitVec.ofInt 64 3).toNat : Nat) = n % 4
  rw [key, IntKind.wrap_i64]
  omega
theorem hp_mask7 (n : Int) : bits .and .i64 n 7 = n % 8 := by
  have key : (BitVec.ofInt 64 n &&& BitVec.ofInt 64 7).toNat = (n % ((2 ^ 64 : Nat) : Int)).toNat % 2 ^ 3 := by
    rw [BitVec.toNat_and, BitVec.toNat_ofInt, show (BitVec.ofInt 64 7).toNat = 2 ^ 3 - 1 by decide, Nat.and_two_pow_sub_one_eq_mod]
  show IntKind.i64.wrap ((BitVec.ofInt 64 n &&& BitVec.ofInt 64 7).toNat : Nat) = n % 8
  rw [key, IntKind.wrap_i64]
  omega
theorem hp_umask63 (n : Int) : bits .and .u64 n 63 = n % 64 := by
  have key : (BitVec.ofInt 64 n &&& BitVec.ofInt 64 63).toNat = (n % ((2 ^ 64 : Nat) : Int)).toNat % 2 ^ 6 := by
    rw [BitVec.toNat_and, BitVec.toNat_ofInt, show (BitVec.ofInt 64 63).toNat = 2 ^ 6 - 1 by decide, Nat.and_two_pow_sub_one_eq_mod]
  show IntKind.u64.wrap ((BitVec.ofInt 64 n &&& BitVec.ofInt 64 63).toNat : Nat) = n % 64
  rw [key, IntKind.wrap_u64]
  omega
/-- Where the loop stands: both sides hold the same. -/
abbrev BothAt {T : AcctApi} (U : HoldApi T) (q p : Addr) (fb ab : Nat) (sh s : Value) (X : Accts) (H : List Int) (g : Int) : HP :=
  star (U.IsF (.pointer (some q)) (.pointer (some p)) H g) (star (T.IsA (.pointer (some p)) X) (star (FeeAt fb ab sh H g) (star (AccAt ab s X) nothing)))

set_option maxRecDepth 100000 in
set_option maxHeartbeats 16000000 in
theorem hplays_some {T : AcctApi} (U : HoldApi T) (cl : Int) (A : Option Addr) (cap : Nat) (ps : List (List Value)) (few : Bool) (w : World) (_ : I64 cl) (hlp : ps.length ≤ 9223372036854775807) (hp : FlatAt w A [.i, .i, .u] ps) :
    Calls Try.prog 9 #[.int .i64 cl, .slice A ps.length cap, .bool few] w fun e w' => e = .returned (.bool true) ∧ Below w.heap.size w w' := by
  obtain ⟨np, hnp⟩ : ∃ k, ps.length = k := ⟨_, rfl⟩
  rw [hnp] at hlp ⊢
  have HNP := Lib.hid hnp; have HP := Lib.hid hp
  clear hnp hp
  have e3 := hp_mask3 cl
  obtain ⟨c, hm⟩ : ∃ m : Int, cl % 4 = m := ⟨_, rfl⟩
  have m64 : I64 c := ⟨by omega, by omega⟩
  rw [hm] at e3
  have M64 := Lib.hid m64
  clear hm m64
  go_enter Try.func9, Try.ntmps9
  go_wp2_with fail
  refine (st_acct T (St.start w w (Below.refl _ _)) c M64.out).mono ?_
  rintro e w1 ⟨p, rfl, h1⟩
  have K := Lib.hid (st_acct6 h1 c)
  clear h1
  go_wp2_with fail
  refine K.out.mono ?_
  rintro e w2 ⟨ab, s, rfl, h2⟩
  have hlen : (newA c).length ≤ 1000 := by have := newA_length c; omega
  have K2 := Lib.hid (st_fees U h2.swap (goodA_new c) hlen)
  have HL := Lib.hid hlen
  clear h2 K hlen e3
  go_wp2_with fail
  refine K2.out.mono ?_
  rintro e w3 ⟨q, rfl, h3⟩
  have hacc := h3.third
  have K3 : Calls Try.prog 29 #[.pointer (some ⟨ab, 0, none⟩)] w3 fun e w' => ∃ fb sh, e = .returned (.pointer (some ⟨fb, 0, none⟩)) ∧ St w w' (BothAt U q p fb ab sh s (newA c) (List.replicate (newA c).length 0) 0) := by
    have h4 := hacc
    obtain ⟨F, ⟨A', B', hpA, _⟩, _⟩ := hacc
    refine (rnewfees_any hpA HL.out).mono ?_
    rintro e w' ⟨fb, sh, G, he, hf, hG, hb⟩
    refine ⟨fb, sh, he, ?_⟩
    have h5 := h4.third'.add hb hf hG
    exact h5.imp fun _ hp => star_mono (fun _ => star_swap) (star_swap hp)
  have HK3 := Lib.hid K3
  clear h3 K2 hacc K3
  go_wp2_with fail
  refine HK3.out.mono ?_
  rintro e w4 ⟨fb, sh, rfl, h4⟩
  have hgf := goodF_new (goodA_new c) HL.out
  have hstart : ∃ X H g, GoodF X H g ∧ St w w4 (BothAt U q p fb ab sh s X H g) := ⟨_, _, _, hgf, h4⟩
  have HS := Lib.hid hstart
  clear hstart hgf h4 HK3
  go_upto_block 0 with fail
  go_cut [11] (fun _ wx => ∃ X H g, GoodF X H g ∧ St w wx (BothAt U q p fb ab sh s X H g))
  case first =>
    go_wp2_with fail
    go_loopw [11] (fun i wr => ∃ k : Nat, k ≤ np ∧ k ≤ 40 ∧ i = .int .i64 k ∧ ∃ X H g, GoodF X H g ∧ St w wr (BothAt U q p fb ab sh s X H g)) (fun i _ => 40 - (intOf i).toNat)
    case atStart => exact ⟨0, by omega, by omega, rfl, HS.out⟩
    case round =>
      obtain ⟨k, hk, hk40, rfl, hat⟩ := hrel
      clear HS
      by_cases hgo : k < np ∧ k < 40
      · obtain ⟨hg1, hg2⟩ := hgo
        obtain ⟨X, H, g, hgf, hst⟩ := hat
        have HST := Lib.hid hst; have HG := Lib.hid hgf
        have hbel := hst.below
        obtain ⟨b, off, rfl, hb, hfit, hc⟩ := HP.out.at (i := k) (by rw [HNP.out]; exact hg1)
        generalize ps[k]'(by rw [HNP.out]; exact hg1) = r at hfit hc
        obtain ⟨kd, pc, n, rfl, hkd, hpc, hn⟩ := flat_iiu hfit
        have c0 : w.cell? ⟨b, off + k * 3, none⟩ = some (.int .i64 kd) := hc 0 (by decide)
        have c1 : w.cell? ⟨b, off + k * 3 + 1, none⟩ = some (.int .i64 pc) := hc 1 (by decide)
        have c2 : w.cell? ⟨b, off + k * 3 + 2, none⟩ = some (.int .u64 n) := hc 2 (by decide)
        have HC0 := Lib.hid c0; have HN := Lib.hid hn; have HPC := Lib.hid hpc
        have d1 := (hbel.cell (p := ⟨b, off + k * 3 + 1, none⟩) hb).trans c1
        have d2 := (hbel.cell (p := ⟨b, off + k * 3 + 2, none⟩) hb).trans c2
        clear hfit hc c0 c1 c2 hkd hpc hn hst hgf hbel
        go_wp2_with fail
        go_quiet (fail)
        clear d1 d2
        have h3 : St w (wr.drewN nq) (BothAt U q p fb ab sh s X H g) := by
          exact HST.out.more (below_drewN (Below.refl _ _) nq)
        obtain ⟨w5, hw5⟩ : ∃ w5, wr.drewN nq = w5 := ⟨_, rfl⟩
        rw [hw5] at h3 ⊢
        have H3 := Lib.hid h3
        clear h3 hw5 HST
        go_upto_if 50 with fail
        go_cut [12, 13] (fun x y wx => ∃ ci ni : Int, x = .int .i64 ci ∧ y = .int .u64 ni ∧ (I64 ci ∧ U64 ni) ∧ wx = w5)
        case first =>
          rcases few with _ | _
          · go_wp2_with fail
            go_meet
            exact ⟨pc, n, rfl, rfl, ⟨HPC.out, HN.out⟩, rfl⟩
          · have e3 := hp_mask3 pc
            have e4 := hp_umask63 n
            obtain ⟨f, hf⟩ : ∃ m : Int, pc % 4 = m := ⟨_, rfl⟩
            obtain ⟨t, ht⟩ : ∃ m : Int, n % 64 = m := ⟨_, rfl⟩
            have f64 : I64 f := ⟨by omega, by omega⟩
            have t64 : U64 t := ⟨by omega, by omega⟩
            rw [hf] at e3; rw [ht] at e4
            have F64 := Lib.hid f64; have T64 := Lib.hid t64
            clear hf ht f64 t64
            go_wp2_with fail
            go_meet
            exact ⟨f, t, rfl, rfl, ⟨F64.out, T64.out⟩, rfl⟩
        case rest =>
          obtain ⟨f, t, rfl, rfl, hft, hw5⟩ := hcut
          subst hw5
          have F64 := Lib.hid hft.1; have T64 := Lib.hid hft.2
          obtain ⟨w6, rfl⟩ : ∃ w6 : World, w6 = wc := ⟨_, rfl⟩
          have d0 := (H3.out.below.cell (p := ⟨b, off + k * 3, none⟩) hb).trans HC0.out
          have e7 := hp_mask7 kd
          obtain ⟨m, hm⟩ : ∃ m : Int, kd % 8 = m := ⟨_, rfl⟩
          rw [hm] at e7
          clear hft HPC hm
          go_upto_block 2 with fail
          go_cut [14, 15, 60] (fun x y _ wx => ∃ z : Int, x = .int .u64 z ∧ y = .int .u64 z ∧ ∃ X H g, GoodF X H g ∧ St w wx (BothAt U q p fb ab sh s X H g))
          case first =>
            clear HNP HP hlp hk hk40 hg1 hg2 HC0
            by_cases m0 : m = 0
            · subst m0
              have K := Lib.hid (H3.out.fsettle f t HG.out F64.out T64.out)
              go_wp2_with fail
              refine K.out.mono ?_
              rintro e w7 ⟨rfl, h7⟩
              have K2 := Lib.hid (rsettle_any f t h7.flip4 HG.out T64.out)
              clear h7 K d0
              go_wp2_with fail
              refine K2.out.mono ?_
              rintro e w8 ⟨rfl, h8⟩
              have H8 := Lib.hid h8.flip4
              clear h8 K2
              go_wp2_with fail
              go_meet
              exact ⟨_, rfl, rfl, _, _, _, HG.out.settle T64.out, H8.out⟩
            · by_cases m1 : m = 1
              · subst m1
                have K := Lib.hid (H3.out.fforfeit f HG.out F64.out)
                go_wp2_with fail
                refine K.out.mono ?_
                rintro e w7 ⟨rfl, h7⟩
                have K2 := Lib.hid (rforf_any f h7.flip4 HG.out)
                clear h7 K d0
                go_wp2_with fail
                refine K2.out.mono ?_
                rintro e w8 ⟨rfl, h8⟩
                have H8 := Lib.hid h8.flip4
                clear h8 K2
                go_wp2_with fail
                go_meet
                exact ⟨_, rfl, rfl, _, _, _, HG.out.forfeit, H8.out⟩
              · by_cases m234 : m = 2 ∨ m = 3 ∨ m = 4
                · have K := Lib.hid (H3.out.swap.aput f 1 t F64.out (by decide) T64.out)
                  rcases m234 with rfl | rfl | rfl
                  all_goals
                    go_wp2_with fail
                    refine K.out.mono ?_
                    rintro e w7 ⟨rfl, h7⟩
                    have K2 := Lib.hid (h7.swap.flip4.swap.rput f 1 t HG.out.ga T64.out)
                    clear h7 K d0
                    go_wp2_with fail
                    refine K2.out.mono ?_
                    rintro e w8 ⟨rfl, h8⟩
                    have H8 := Lib.hid h8.swap.flip4
                    clear h8 K2
                    go_wp2_with fail
                    go_meet
                    exact ⟨_, rfl, rfl, _, _, _, HG.out.put f 1 T64.out, H8.out⟩
                · have b0 : (m == 0) = false := beq_eq_false_iff_ne.2 m0
                  have b1 : (m == 1) = false := beq_eq_false_iff_ne.2 m1
                  have b2 : (m == 2) = false := beq_eq_false_iff_ne.2 (fun h => m234 (Or.inl h))
                  have b3 : (m == 3) = false := beq_eq_false_iff_ne.2 (fun h => m234 (Or.inr (Or.inl h)))
                  have b4 : (m == 4) = false := beq_eq_false_iff_ne.2 (fun h => m234 (Or.inr (Or.inr h)))
                  have K := Lib.hid (H3.out.fhold f t HG.out F64.out T64.out)
                  clear m0 m1 m234
                  go_wp2_with fail
                  refine K.out.mono ?_
                  rintro e w7 ⟨rfl, h7⟩
                  have K2 := Lib.hid (rhold_any f t h7.flip4 HG.out T64.out)
                  clear h7 K d0
                  go_wp2_with fail
                  refine K2.out.mono ?_
                  rintro e w8 ⟨rfl, h8⟩
                  have H8 := Lib.hid h8.flip4
                  clear h8 K2
                  go_wp2_with fail
                  go_meet
                  exact ⟨_, rfl, rfl, _, _, _, HG.out.hold T64.out, H8.out⟩
          case rest =>
            obtain ⟨z, rfl, rfl, X2, H2', g2, hG2, hst⟩ := hcut
            have HG2 := Lib.hid hG2
            have fact : ∀ w' : World, St w w' (BothAt U q p fb ab sh s X2 H2' g2) → w'.cell? ⟨fb, 2, none⟩ = some (.int .u64 g2)   := fun _ h => h.flip4.fee.2.2.1
            have HF := Lib.hid fact
            have K1 := (hst.drew).fheld f F64.out
            have e0 := fact _ hst.drew
            obtain ⟨hd, hhd⟩ : ∃ x, hOf H2' f = x := ⟨_, rfl⟩
            obtain ⟨fr, hfr⟩ : ∃ x, freeA X2 f 1 = x := ⟨_, rfl⟩
            rw [hhd] at K1
            have HK1 := Lib.hid K1; have HHD := Lib.hid hhd; have HFR := Lib.hid hfr
            clear hG2 hst fact K1 hhd hfr H3 HG d0 e7
            go_wp2_with fail
            go_cut [130] (fun s130 wx => s130 = .bool false ∧ St w wx (BothAt U q p fb ab sh s X2 H2' g2))
            case first =>
              go_region_held3 (fun w' => w'.cell? ⟨fb, 2, none⟩ = some (.int .u64 g2)) (first | exact e5 | exact e4 | exact e3 | exact e2 | exact e1 | exact e0) (first
                | (go_at_call 23; refine HK1.out.mono ?_; rintro e w7 ⟨rfl, h7, _⟩; have e1 := HF.out _ h7; have K2 := h7.flip4.rof f; rw [HHD.out] at K2; have HK2 := Lib.hid K2; have H7 := Lib.hid h7; clear h7 K2)
                | (go_at_call 33; refine HK2.out.mono ?_; rintro e w8 ⟨rfl, rfl⟩; have e2 := HF.out _ H7.out; have HK3 := Lib.hid H7.out.fgot)
                | (go_at_call 24; refine HK3.out.mono ?_; rintro e w9 ⟨rfl, h9, _⟩; have e3 := HF.out _ h9; have K4 := h9.swap.afree f 1 F64.out (by decide); rw [HFR.out] at K4; have HK4 := Lib.hid K4; clear h9 K4)
                | (go_at_call 15; refine HK4.out.mono ?_; rintro e w10 ⟨rfl, h10, _⟩; have e4 := HF.out _ h10.swap; have K5 := h10.swap.flip4.swap.rfree f 1; rw [HFR.out] at K5; have HK5 := Lib.hid K5; have H10 := Lib.hid h10.swap; clear h10 K5)
                | (go_at_call 21; refine HK5.out.mono ?_; rintro e w11 ⟨rfl, rfl⟩; have e5 := HF.out _ H10.out))
              all_goals
                go_wp2_with fail
                go_meet
                exact ⟨by first | rfl | simp, H10.out⟩
            case rest =>
              obtain ⟨rfl, hst⟩ := hcut
              have HX := Lib.hid hst
              clear hst
              go_wp2_with fail
              go_roundw
              case rel => exact ⟨k + 1, by omega, by omega, by go_num, X2, H2', g2, HG2.out, HX.out⟩
              case measure => simp [intOf]; omega
      · have HAT := Lib.hid hat
        have hge : k = np ∨ (k < np ∧ k = 40) := by omega
        clear hgo hat
        rcases hge with rfl | ⟨hlt, rfl⟩
        all_goals
          go_wp2_with fail
          go_meet
          exact HAT.out
  case rest =>
    obtain ⟨X, H, g, _, hst⟩ := hcut
    have HB := Lib.hid hst.below
    have hsz := hst.size
    have HSZ := Lib.hid hsz
    clear hst hsz HS
    go_wp2_with fail
    refine (hawake_any U _).mono ?_
    rintro e w8 ⟨rfl, hb8⟩
    have HB8 := Lib.hid hb8
    clear hb8
    go_wp2_with fail
    go_ret
    exact ⟨rfl, HB.out.trans (HB8.out.mono HSZ.out)⟩
end Go.Proofs.Ytnicfhafepiknaa
