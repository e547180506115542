/- SealNone answers true, and makes only new memory. Conditions: seal's calls are as their contracts say; the rows lie in memory. -/
import Derived.Test.YtdhnpbfoeohhmaaSealAwake
import Derived.Test.YtdhnpbfoeohhmaaSame
import Derived.Test.YtdhnpbfoeohhmaaView
import Derived.Deep.CutBlock
import Derived.Deep.DeepCutAuto
import Derived.Deep.RegionHeld3
namespace Go.Proofs.Ytdhnpbfoeohhmaa
open Go.RowKit Go.WideShapes

/-- The ciphers and the shares behind k rounds. -/
def noneT (xs : List Int) (rs : List RowV) : Nat → Texts
  | 0 => []
  | k + 1 => noneT xs rs k ++ [(xs.getD k 0, (rs.getD k default).t)]
def noneL (xs : List Int) : Nat → List (Int × Int)
  | 0 => []
  | k + 1 => signAdd (noneL xs k) (xs.getD k 0, (k : Int) + 1)
theorem noneT_length (xs : List Int) (rs : List RowV) : ∀ k, (noneT xs rs k).length = k
  | 0 => rfl
  | k + 1 => by rw [noneT, List.length_append, noneT_length]; rfl
theorem noneT_at (xs : List Int) (rs : List RowV) {i : Nat} : ∀ {k : Nat}, i < k → (noneT xs rs k)[i]? = some (xs.getD i 0, (rs.getD i default).t)
  | 0, h => by omega
  | k + 1, h => by
    rw [noneT]
    by_cases e : i = k
    · subst e
      rw [List.getElem?_append_right (by rw [noneT_length]; exact Nat.le_refl _), noneT_length, Nat.sub_self]
      rfl
    · rw [List.getElem?_append_left (by rw [noneT_length]; omega)]
      exact noneT_at xs rs (by omega)
theorem mem_noneL {xs : List Int} {p : Int × Int} : ∀ {k : Nat}, p ∈ noneL xs k ↔ ∃ i : Nat, i < k ∧ p = (xs.getD i 0, (i : Int) + 1)
  | 0 => by simp [noneL]
  | k + 1 => by
    rw [noneL, mem_signAdd, mem_noneL (k := k)]
    constructor
    · rintro (h | ⟨i, hi, h⟩)
      · exact ⟨k, by omega, h⟩
      · exact ⟨i, by omega, h⟩
    · rintro ⟨i, hi, h⟩
      by_cases e : i = k
      · subst e; exact Or.inl h
      · exact Or.inr ⟨i, by omega, h⟩
theorem noneL_length (xs : List Int) : ∀ k, (noneL xs k).length ≤ k
  | 0 => Nat.le_refl _
  | k + 1 => by
    have h1 := signAdd_length (noneL xs k) (xs.getD k 0, (k : Int) + 1)
    have h2 := noneL_length xs k
    rw [noneL]; omega
theorem none_isC {xs : List Int} {rs : List RowV} {i k : Nat} (h : i < k) : isC (noneT xs rs k) ((i : Int) + 1) = true := by
  rw [isC_iff, noneT_length]; omega
theorem none_notC {xs : List Int} {rs : List RowV} {k : Nat} {c : Int} (h : ¬ (1 ≤ c ∧ c ≤ k)) : isC (noneT xs rs k) c = false := by
  rw [isC, noneT_length]; exact decide_eq_false h
theorem none_only (xs : List Int) (rs : List RowV) (k : Nat) : OnlyC (noneT xs rs k) (noneL xs k) := by
  intro p hp
  obtain ⟨i, hi, rfl⟩ := mem_noneL.1 hp
  exact none_isC hi
theorem none_only1 (xs : List Int) (rs : List RowV) (k : Nat) (q : Int × List UInt8) : OnlyC (noneT xs rs k ++ [q]) (noneL xs k) := (none_only xs rs k).more q
theorem none_all {xs : List Int} {i k : Nat} (h : i < k) : allOf (noneL xs k) ((i : Int) + 1) = [xs.getD i 0] := by
  refine allOf_is (by simp) fun x => ?_
  rw [List.mem_singleton, mem_noneL]
  constructor
  · rintro rfl; exact ⟨i, h, rfl⟩
  · rintro ⟨j, hj, e⟩
    injection e with e1 e2
    obtain rfl : j = i := by omega
    exact e1
theorem none_open {xs : List Int} {rs : List RowV} {i k : Nat} {x : Int} (h : i < k) (hx : xs.getD i 0 = x) : openOk 1 (noneT xs rs k) (noneL xs k) x ((i : Int) + 1) = true ∧ openRow 1 (noneT xs rs k) (noneL xs k) x ((i : Int) + 1) = (rs.getD i default).t := by
  have e : ((i : Int) + 1 - 1).toNat = i := by omega
  have hT : (noneT xs rs k).getD i (0, []) = (xs.getD i 0, (rs.getD i default).t) := by rw [List.getD_eq_getElem?_getD, noneT_at xs rs h]; rfl
  have h1 : openOk 1 (noneT xs rs k) (noneL xs k) x ((i : Int) + 1) = true := by
    rw [openOk, none_isC h, none_all h, e, hT, ← hx]
    simp
  refine ⟨h1, ?_⟩
  rw [openRow, if_pos h1, e, hT]
theorem none_shared {xs : List Int} {i k : Nat} {x : Int} (h : i < k) (hx : xs.getD i 0 = x) : decide ((x, (i : Int) + 1) ∈ noneL xs k) = true := by
  rw [← hx]; exact decide_eq_true (mem_noneL.2 ⟨i, h, rfl⟩)
theorem none_share {xs : List Int} {rs : List RowV} {k : Nat} {x : Int} {rv : RowV} (hx : xs.getD k 0 = x) (hr : rs.getD k default = rv) :
    isC (noneT xs rs k ++ [(x, rv.t)]) ((k : Int) + 1) = true ∧ shareAdd (noneT xs rs k ++ [(x, rv.t)]) (noneL xs k) x ((k : Int) + 1) = noneL xs (k + 1) ∧ noneT xs rs k ++ [(x, rv.t)] = noneT xs rs (k + 1) := by
  have e : noneT xs rs k ++ [(x, rv.t)] = noneT xs rs (k + 1) := by rw [noneT, hx, hr]
  have h1 : isC (noneT xs rs k ++ [(x, rv.t)]) ((k : Int) + 1) = true := by rw [e]; exact none_isC (by omega)
  exact ⟨h1, by rw [shareAdd, if_pos h1, noneL, hx], e⟩

theorem none_closed {xs : List Int} {rs : List RowV} {k : Nat} {c x : Int} (h : ¬ (1 ≤ c ∧ c ≤ k)) : openOk 1 (noneT xs rs k) (noneL xs k) x c = false ∧ shareAdd (noneT xs rs k) (noneL xs k) x c = noneL xs k ∧ decide ((x, c) ∈ noneL xs k) = false ∧ allOf (noneL xs k) c = [] := by
  have h1 : isC (noneT xs rs k) c = false := none_notC h
  refine ⟨by rw [openOk, h1]; rfl, by rw [shareAdd, if_neg (by rw [h1]; decide)], decide_eq_false fun hm => ?_, (none_only xs rs k).none h1⟩
  have := none_only xs rs k _ hm
  rw [h1] at this
  cases this

set_option maxRecDepth 100000 in
set_option maxHeartbeats 16000000 in
theorem none_some (S : SealApi) (A A2 : Option Addr) (cap cap2 : Nat) (rs : List RowV) (xs : List Int) (raw : Int) (w : World) (hlr : rs.length ≤ 9223372036854775807) (hr : RowsAt w A rs) (hlx : xs.length ≤ 9223372036854775807) (hx : IntsIn w A2 xs) (wfx : ∀ x ∈ xs, I64 x) (hraw : I64 raw) :
    Calls Try.prog 5 #[.slice A rs.length cap, .slice A2 xs.length cap2, .int .i64 raw] w fun e w' => e = .returned (.bool true) ∧ Below w.heap.size w w' := by
  obtain ⟨nr, hnr⟩ : ∃ k, rs.length = k := ⟨_, rfl⟩
  obtain ⟨nx, hnx⟩ : ∃ k, xs.length = k := ⟨_, rfl⟩
  rw [hnr] at hlr ⊢
  rw [hnx] at hlx ⊢
  obtain ⟨n, hn⟩ : ∃ n : Nat, n = min (min nr nx) 12 := ⟨_, rfl⟩
  have HNR := Lib.hid hnr; have HNX := Lib.hid hnx; have HR := Lib.hid hr; have HX := Lib.hid hx; have WX := Lib.hid wfx; have WR := Lib.hid hraw; have HNN := Lib.hid hn
  have hn12 : n ≤ 12 := by omega
  have hnr' : n ≤ nr := by omega
  have hnx' : n ≤ nx := by omega
  clear hnr hnx hr hx wfx hraw hn
  go_enter Try.func5, Try.ntmps5
  go_wp2_with fail
  refine (st_vault S (St.start w w (Below.refl _ _)) 1 (by decide)).mono ?_
  rintro e w1 ⟨p, rfl, h1⟩
  have H1 := Lib.hid h1
  clear h1
  obtain ⟨m0, hm0⟩ : ∃ m : Nat, m = min nr nx := ⟨_, rfl⟩
  have hi0 : (if (nx : Int) < (nr : Int) then (nx : Int) else (nr : Int)) = (m0 : Int) := by split <;> omega
  have hi1 : (if (12 : Int) < (m0 : Int) then (12 : Int) else (m0 : Int)) = (n : Int) := by have := HNN.out; split <;> omega
  have hmin : ∀ w : World, (Builtin.min_ #[3, 3, 3] 3 #[.int .i64 (nr : Int), .int .i64 (nx : Int), .int .i64 12]).run Try.prog w = .ok (.int .i64 (n : Int)) w := fun w => by
    rw [← hi1, ← hi0]; simp [Builtin.min_, Builtin.min2]
  clear hm0 hi0 hi1
  go_upto_region 4 with fail
  go_cut [8] (fun s8 wx => s8 = .int .i64 n ∧ wx = w1)
  case first =>
    go_wp2_with fail
    go_meet
    exact ⟨rfl, rfl⟩
  case rest =>
    obtain ⟨rfl, rfl⟩ := hcut
    obtain ⟨w1, rfl⟩ : ∃ w1 : World, w1 = wc := ⟨_, rfl⟩
    clear hmin
    go_upto_block 0 with fail
    go_cut [9] (fun _ wx => (∀ i, i < n → (rs.getD i default).t.length ≤ 200) ∧ St w wx (star (S.IsV (.pointer (some p)) 1 (noneT xs rs n) (noneL xs n)) nothing))
    case first =>
      go_wp2_with fail
      go_loopw [9] (fun i wr => ∃ k : Nat, k ≤ n ∧ i = .int .i64 k ∧ (∀ i, i < k → (rs.getD i default).t.length ≤ 200) ∧ St w wr (star (S.IsV (.pointer (some p)) 1 (noneT xs rs k) (noneL xs k)) nothing)) (fun i _ => n - (intOf i).toNat)
      case atStart => exact ⟨0, by omega, rfl, fun i hi => by omega, H1.out⟩
      case round =>
        obtain ⟨k, hk, rfl, hlen, hst⟩ := hrel
        have HST := Lib.hid hst; have HLN := Lib.hid hlen
        clear hst hlen H1
        by_cases hkn : k < n
        · have hkr : k < rs.length := by rw [HNR.out]; omega
          have hkx : k < xs.length := by rw [HNX.out]; omega
          obtain ⟨b, off, rfl, hbw, hcs⟩ : ∃ b off : Nat, A = some ⟨b, off, none⟩ ∧ b < w.heap.size ∧ ∀ i (h : i < rs.length), w.cell? ⟨b, off + i, none⟩ = some (.slice rs[i].A rs[i].t.length rs[i].cap) ∧ rs[i].ok w := by
            rcases HR.out with h | h
            · rw [h] at hkr; simp at hkr
            · exact h
          obtain ⟨b2, off2, rfl, hb2, hc2⟩ := HX.out.at hkx
          obtain ⟨hc0, hok⟩ := hcs k hkr
          have wx := WX.out _ (List.getElem_mem hkx)
          have exk : xs.getD k 0 = xs[k] := by rw [List.getD_eq_getElem?_getD, List.getElem?_eq_getElem hkx]; rfl
          have erk : rs.getD k default = rs[k] := by rw [List.getD_eq_getElem?_getD, List.getElem?_eq_getElem hkr]; rfl
          generalize xs[k] = x at hc2 wx exk
          generalize rs[k] = rv at hc0 hok erk
          obtain ⟨hs1, hs2, hs3⟩ := none_share (rs := rs) exk erk
          have ho1 := none_only1 xs rs k (x, rv.t)
          obtain ⟨tA, tcap, t⟩ := rv
          obtain ⟨q1, q2, q3, q4⟩ := hok
          simp only at hc0 q1 q2 q3 q4 hs1 hs2 hs3 ho1
          have hw1 : IntKind.i64.wrap ((k : Int) + 1) = (k : Int) + 1 := IntWalk.i64_in _ (by omega)
          have hk1 : k < nr := by omega
          have hk2 : k < nx := by omega
          have hk3 : (k : Int) < (nr : Int) := by omega
          have hk4 : (k : Int) < (nx : Int) := by omega
          have hcell := (HST.out.below.cell (p := ⟨b, off + k, none⟩) hbw).trans hc0
          have hcell2 := (HST.out.below.cell (p := ⟨b2, off2 + k, none⟩) hb2).trans hc2
          have hTl := noneT_length xs rs k
          have hLl := noneL_length xs k
          have HTL := Lib.hid hTl; have HLL := Lib.hid hLl; have HERK := Lib.hid erk
          have HC := Lib.hid hc0; have HC2 := Lib.hid hc2; have HWX := Lib.hid wx; have HQ3 := Lib.hid q3; have HQ4 := Lib.hid q4; have HS1 := Lib.hid hs1; have HS2 := Lib.hid hs2; have HS3 := Lib.hid hs3; have HO1 := Lib.hid ho1
          clear hc0 hc2 wx q3 q4 hs1 hs2 hs3 ho1 hcs exk erk hTl hLl
          go_wp2_with fail
          · refine (vawake_any S _).mono ?_
            rintro e w3 ⟨rfl, hb3⟩
            have HB3 := Lib.hid hb3
            clear hb3
            go_wp2_with fail
            go_ret
            exact ⟨rfl, HST.out.below.trans (HB3.out.mono HST.out.size)⟩
          · have ht : t.length ≤ 200 := by omega
            have K1 := HST.out.drew.vseal x tA t.length tcap t (by rw [HTL.out]; omega) HWX.out rfl (by have := S.lim_ge; omega) q1 HQ3.out (HQ4.out.below (HST.out.below.drew))
            rw [HTL.out] at K1
            have HK1 := Lib.hid K1
            clear K1
            go_cut [58] (fun s58 wx => s58 = .bool false ∧ St w wx (star (S.IsV (.pointer (some p)) 1 (noneT xs rs (k + 1)) (noneL xs (k + 1))) nothing))
            case first =>
              go_region_held3 (fun w' => w'.cell? ⟨b, off + k, none⟩ = some (.slice tA t.length tcap) ∧ w'.cell? ⟨b2, off2 + k, none⟩ = some (.int .i64 x)) (first | exact ⟨e7, e8⟩ | exact ⟨e5, e6⟩ | exact ⟨hcell, hcell2⟩) (first
                | (go_at_call 10; refine HK1.out.mono ?_; rintro e w5 ⟨rfl, h5⟩; have e5 := (h5.below.cell (p := ⟨b, off + k, none⟩) hbw).trans HC.out; have e6 := (h5.below.cell (p := ⟨b2, off2 + k, none⟩) hb2).trans HC2.out; have K2 := Lib.hid (h5.vshare x ((k : Int) + 1) (by simp [HTL.out]; omega) (by have := HLL.out; omega) HO1.out HWX.out ⟨by omega, by omega⟩); rw [HS1.out, HS2.out, HS3.out] at K2; clear h5)
                | (go_at_call 14; refine K2.out.mono ?_; rintro e w6 ⟨rfl, h6⟩; have e7 := (h6.below.cell (p := ⟨b, off + k, none⟩) hbw).trans HC.out; have e8 := (h6.below.cell (p := ⟨b2, off2 + k, none⟩) hb2).trans HC2.out; have H6 := Lib.hid h6; clear h6))
              all_goals
                go_wp2_with fail
                go_meet
                exact ⟨rfl, H6.out⟩
            case rest =>
              obtain ⟨rfl, hst5⟩ := hcut
              have H5 := Lib.hid hst5
              have hlen2 : ∀ i, i < k + 1 → (rs.getD i default).t.length ≤ 200 := fun i hi => by
                by_cases e : i = k
                · subst e; rw [HERK.out]; exact ht
                · exact HLN.out i (by omega)
              have HLN2 := Lib.hid hlen2
              clear hst5 HK1 hlen2 hcell hcell2
              go_wp2_with fail
              go_roundw
              case rel => exact ⟨k + 1, by omega, by go_num, HLN2.out, H5.out⟩
              case measure => simp [intOf]; omega
        · obtain rfl : k = n := by omega
          go_wp2_with fail
          go_meet
          exact ⟨HLN.out, HST.out⟩
    case rest =>
      obtain ⟨hlen, hst⟩ := hcut
      obtain ⟨w2, rfl⟩ : ∃ w2 : World, w2 = wc := ⟨_, rfl⟩
      have HLN := Lib.hid hlen; have HST := Lib.hid hst
      clear hlen hst H1
      have hTl := noneT_length xs rs n
      have hLl := noneL_length xs n
      have hON := none_only xs rs n
      have HTL := Lib.hid hTl; have HLL := Lib.hid hLl; have HON := Lib.hid hON
      have hT6 : Hid ((noneT xs rs n).length ≤ 1000000) := Lib.hid (by omega)
      have hL6 : Hid ((noneL xs n).length ≤ 1000000) := Lib.hid (by omega)
      clear hTl hLl hON
      go_upto_block 2 with fail
      go_cut [10] (fun _ wx => St w wx (star (S.IsV (.pointer (some p)) 1 (noneT xs rs n) (noneL xs n)) nothing))
      case first =>
        go_wp2_with fail
        go_loopw [10] (fun i wr => ∃ k : Nat, k ≤ n ∧ i = .int .i64 k ∧ St w wr (star (S.IsV (.pointer (some p)) 1 (noneT xs rs n) (noneL xs n)) nothing)) (fun i _ => n - (intOf i).toNat)
        case atStart => exact ⟨0, by omega, rfl, HST.out⟩
        case round =>
          obtain ⟨k, hk, rfl, hst⟩ := hrel
          have HS := Lib.hid hst
          clear hst HST
          by_cases hkn : k < n
          · have hkr : k < rs.length := by rw [HNR.out]; omega
            have hkx : k < xs.length := by rw [HNX.out]; omega
            obtain ⟨b, off, rfl, hbw, hcs⟩ : ∃ b off : Nat, A = some ⟨b, off, none⟩ ∧ b < w.heap.size ∧ ∀ i (h : i < rs.length), w.cell? ⟨b, off + i, none⟩ = some (.slice rs[i].A rs[i].t.length rs[i].cap) ∧ rs[i].ok w := by
              rcases HR.out with h | h
              · rw [h] at hkr; simp at hkr
              · exact h
            obtain ⟨b2, off2, rfl, hb2, hc2⟩ := HX.out.at hkx
            obtain ⟨hc0, hok⟩ := hcs k hkr
            have wx := WX.out _ (List.getElem_mem hkx)
            have exk : xs.getD k 0 = xs[k] := by rw [List.getD_eq_getElem?_getD, List.getElem?_eq_getElem hkx]; rfl
            have erk : rs.getD k default = rs[k] := by rw [List.getD_eq_getElem?_getD, List.getElem?_eq_getElem hkr]; rfl
            have hlk := HLN.out k hkn
            rw [erk] at hlk
            generalize xs[k] = x at hc2 wx exk
            generalize rs[k] = rv at hc0 hok erk hlk
            obtain ⟨ho1, ho2⟩ := none_open (rs := rs) hkn exk
            have hsh := none_shared hkn exk
            rw [erk] at ho2
            obtain ⟨tA, tcap, t⟩ := rv
            obtain ⟨q1, q2, q3, q4⟩ := hok
            simp only at hc0 q1 q2 q3 q4 ho2 hlk
            have hcell := (HS.out.below.cell (p := ⟨b, off + k, none⟩) hbw).trans hc0
            have hcell2 := (HS.out.below.cell (p := ⟨b2, off2 + k, none⟩) hb2).trans hc2
            have hw1 : IntKind.i64.wrap ((k : Int) + 1) = (k : Int) + 1 := IntWalk.i64_in _ (by omega)
            have hk1 : k < nr := by omega
            have hk2 : k < nx := by omega
            have hk3 : (k : Int) < (nr : Int) := by omega
            have hk4 : (k : Int) < (nx : Int) := by omega
            have K := HS.out.vopen x ((k : Int) + 1) hT6.out hL6.out HON.out wx ⟨by omega, by omega⟩
            rw [ho1, ho2] at K
            have HK := Lib.hid K
            have HC := Lib.hid hc0; have HC2 := Lib.hid hc2; have HWX := Lib.hid wx; have HQ3 := Lib.hid q3; have HQ4 := Lib.hid q4; have HSH := Lib.hid hsh
            obtain ⟨nt, hnt⟩ : ∃ m, t.length = m := ⟨_, rfl⟩
            rw [hnt] at hcell hlk q1
            have HC' : Hid (w.cell? ⟨b, off + k, none⟩ = some (.slice tA nt tcap)) := Lib.hid (hnt ▸ hc0)
            have HNT := Lib.hid hnt
            clear hc0 hc2 wx q3 q4 hsh hcs exk erk ho1 ho2 K hnt HC
            go_wp2_with fail
            refine HK.out.mono ?_
            clear HK
            rintro e w4 ⟨x4, rfl, h4⟩
            obtain ⟨A4, cap4, rfl, hc4, hn4, hl4⟩ := h4.lieR
            have hcell := (h4.below.cell (p := ⟨b, off + k, none⟩) hbw).trans HC'.out
            have hcell2 := (h4.below.cell (p := ⟨b2, off2 + k, none⟩) hb2).trans HC2.out
            have HK2 := Lib.hid (bsame_any (cap := cap4) (capb := tcap) (l := t) hl4 (HQ4.out.below h4.below) HNT.out HNT.out (fun h => by have := hn4 h; have := HNT.out; omega) (fun h => by have := HQ3.out h; omega))
            rw [decide_eq_true rfl] at HK2
            rw [HNT.out]
            have K := h4.snd.vshared x ((k : Int) + 1) hT6.out hL6.out HON.out HWX.out ⟨by omega, by omega⟩
            rw [HSH.out] at K
            have HK3 := Lib.hid K
            clear h4 hc4 hn4 hl4 K HS
            go_wp2_with fail
            refine HK2.out.mono ?_
            rintro e w5 ⟨rfl, rfl⟩
            go_wp2_with fail
            refine HK3.out.mono ?_
            rintro e w6 ⟨rfl, h6, _⟩
            have H6 := Lib.hid h6
            clear h6 HK2 HK3 hcell hcell2
            go_wp2_with fail
            go_roundw
            case rel => exact ⟨k + 1, by omega, by go_num, H6.out⟩
            case measure => simp [intOf]; omega
          · obtain rfl : k = n := by omega
            clear hkn hk
            go_wp2_with fail
            go_meet
            exact HS.out
      case rest =>
        have HS := Lib.hid hcut
        obtain ⟨w3, rfl⟩ : ∃ w3 : World, w3 = wc := ⟨_, rfl⟩
        have hsz := hcut.size
        have HSZ := Lib.hid hsz
        clear hcut HST HLN hsz
        by_cases hin : 1 ≤ raw ∧ raw ≤ (n : Int)
        · have b1 : decide (1 ≤ raw) = true := decide_eq_true hin.1
          have b2 : decide (raw ≤ (n : Int)) = true := decide_eq_true hin.2
          clear hin
          go_wp2_with fail
          refine (vawake_any S _).mono ?_
          rintro e w8 ⟨rfl, hb8⟩
          have HB8 := Lib.hid hb8
          clear hb8
          go_wp2_with fail
          go_ret
          exact ⟨rfl, HS.out.below.trans (HB8.out.mono HSZ.out)⟩
        · obtain ⟨e1, e2, e3, e4⟩ := none_closed (xs := xs) (rs := rs) (x := 0) hin
          have K1 := HS.out.vopen 0 raw hT6.out hL6.out HON.out (by decide) WR.out
          rw [e1] at K1
          have HK1 := Lib.hid K1; have E2 := Lib.hid e2; have E3 := Lib.hid e3; have E4 := Lib.hid e4
          have hbb : Hid (isC (noneT xs rs n) raw = false) := Lib.hid (none_notC hin)
          clear K1 e1 e2 e3 e4
          have hb : decide (1 ≤ raw) = false ∨ (decide (1 ≤ raw) = true ∧ decide (raw ≤ (n : Int)) = false) := by
            rcases Int.lt_or_le raw 1 with h | h
            · exact Or.inl (decide_eq_false (by omega))
            · exact Or.inr ⟨decide_eq_true h, decide_eq_false (fun h2 => hin ⟨h, h2⟩)⟩
          clear hin
          rcases hb with b1 | ⟨b1, b2⟩
          all_goals
            go_wp2_with fail
            refine HK1.out.mono ?_
            rintro e w4 ⟨x4, rfl, h4⟩
            have K := h4.snd.vshare 0 raw hT6.out hL6.out HON.out (by decide) WR.out
            rw [hbb.out, E2.out] at K
            have HK2 := Lib.hid K
            clear K h4
            go_wp2_with fail
            refine HK2.out.mono ?_
            rintro e w5 ⟨rfl, h5⟩
            have K := h5.vshared 0 raw hT6.out hL6.out HON.out (by decide) WR.out
            rw [E3.out] at K
            have HK3 := Lib.hid K
            clear K h5 HK2
            go_wp2_with fail
            refine HK3.out.mono ?_
            rintro e w6 ⟨rfl, h6, _⟩
            have K := h6.vshares raw hT6.out hL6.out HON.out WR.out
            rw [E4.out] at K
            have HK4 := Lib.hid K
            clear K h6 HK3
            go_wp2_with fail
            refine HK4.out.mono ?_
            rintro e w7 ⟨x7, rfl, h7⟩
            obtain ⟨A7, cap7, rfl, _⟩ := h7.ints
            have K := h7.snd.vlen hT6.out
            rw [HTL.out] at K
            have HK5 := Lib.hid K
            clear K h7 HK4
            go_wp2_with fail
            refine HK5.out.mono ?_
            rintro e w9 ⟨rfl, h9, _⟩
            have HB9 := Lib.hid h9.below
            have hs9 := h9.size
            have HS9 := Lib.hid hs9
            clear h9 HK5 hs9
            go_wp2_with fail
            refine (vawake_any S _).mono ?_
            rintro e w8 ⟨rfl, hb8⟩
            have HB8 := Lib.hid hb8
            clear hb8
            go_wp2_with fail
            go_ret
            exact ⟨rfl, HB9.out.trans (HB8.out.mono HS9.out)⟩
end Go.Proofs.Ytdhnpbfoeohhmaa
