/- TermMany answers true, and makes only new memory: the walk. Conditions: term's calls are as their contracts say; the row of numbers lies in memory. -/
import Derived.Test.YtlodklmcamanpaaTermMany
namespace Go.Proofs.Ytlodklmcamanpaa
open Go.RowKit Go.WideShapes

/-- A row of ints lies in memory. -/
def IntsAt (w : World) (A : Option Addr) (os : List Int) : Prop := os = [] ∨ ∃ b off : Nat, A = some ⟨b, off, none⟩ ∧ b < w.heap.size ∧ ∀ i (h : i < os.length), w.cell? ⟨b, off + i, none⟩ = some (.int .i64 os[i])
/-- Where the second loop stands. -/
def ManyAt (T : TermApi) (w0 w : World) (pa pb : Addr) (B N i : Nat) : Prop :=
  ∃ ks f, ks.length ≤ i ∧ (∀ j ∈ ks, j < N) ∧ SeenIs N ks f ∧ St w0 w (star (MI 3 B f ks.length) (star (T.IsA (.pointer (some pa)) (rowsTo N)) (star (T.IsA (.pointer (some pb)) (ks.map one)) nothing)))

/-- .. and in the midst of a round, ahead of the second arena. -/
def ManyMid (T : TermApi) (w0 w : World) (pa pb : Addr) (B N i k : Nat) (c : Int) : Prop :=
  ∃ ks f L, ks.length ≤ i + 1 ∧ L.length ≤ 1000000 ∧ (∀ j ∈ ks, j < N) ∧ SeenIs N ks f ∧ (f (.int .i64 k)).getD 0 = c ∧ digOf L (one k) = c ∧ digAdd L (one k) = ks.map one ∧
    St w0 w (star (MI 3 B f ks.length) (star (T.IsA (.pointer (some pa)) (rowsTo N)) (star (T.IsA (.pointer (some pb)) L) nothing)))
theorem mid_old {T : TermApi} {w0 w : World} {pa pb : Addr} {B N i k : Nat} {ks : List Nat} {f : Lit → Option Int} (hi : i ≤ 40) (hN : N ≤ 256) (hkl : ks.length ≤ i) (hks : ∀ j ∈ ks, j < N) (hsi : SeenIs N ks f) (hk : k < N) (hin : k ∈ ks)
    (h : St w0 w (star (MI 3 B f ks.length) (star (T.IsA (.pointer (some pa)) (rowsTo N)) (star (T.IsA (.pointer (some pb)) (ks.map one)) nothing)))) : ManyMid T w0 w pa pb B N i k ((ks.idxOf k : Int) + 1) := by
  have e : (f (.int .i64 k)).getD 0 = (ks.idxOf k : Int) + 1 := by rw [hsi k hk, if_pos hin]; rfl
  obtain ⟨h1, h2⟩ := seen_dig hsi hN hks hk hin
  exact ⟨ks, f, ks.map one, by omega, by simp; omega, hks, hsi, e, by rw [h1, e], h2, h⟩
theorem mid_new {T : TermApi} {w0 w : World} {pa pb : Addr} {B N i k : Nat} {ks : List Nat} {f : Lit → Option Int} (hi : i ≤ 40) (hN : N ≤ 256) (hkl : ks.length ≤ i) (hks : ∀ j ∈ ks, j < N) (hsi : SeenIs N ks f) (hk : k < N) (hin : k ∉ ks)
    (h : St w0 w (star (MI 3 B (upM f (.int .i64 k) ((ks.length : Int) + 1)) (if (f (.int .i64 k)).isSome then ks.length else ks.length + 1)) (star (T.IsA (.pointer (some pa)) (rowsTo N)) (star (T.IsA (.pointer (some pb)) (ks.map one)) nothing)))) :
    ManyMid T w0 w pa pb B N i k ((ks.length : Int) + 1) := by
  have hno : one k ∉ ks.map one := by
    intro hm
    obtain ⟨j, hj, e⟩ := List.mem_map.1 hm
    have := one_inj (by have := hks j hj; omega) (by omega) e
    subst this; exact hin hj
  have e : (f (.int .i64 k)).isSome = false := by rw [hsi k hk, if_neg hin]; rfl
  rw [e] at h
  refine ⟨ks ++ [k], _, ks.map one, by simp; omega, by simp; omega, ?_, seen_new hsi hk hin, ?_, by rw [digOf_new hno, List.length_map], by rw [digAdd_new hno]; simp, by simpa using h⟩
  · intro j hj
    rcases List.mem_append.1 hj with h | h
    · exact hks j h
    · rw [List.mem_singleton] at h; subst h; exact hk
  · rw [upM_same f (show WideAt.IsKeyLit (.int .i64 (k : Int)) from True.intro)]; rfl

set_option maxRecDepth 100000 in
set_option maxHeartbeats 8000000 in
theorem many_some (T : TermApi) (n : Int) (A : Option Addr) (cap : Nat) (os : List Int) (w : World) (hlen : os.length ≤ 9223372036854775807) (ho : IntsAt w A os) :
    Calls Try.prog 3 #[.int .i64 n, .slice A os.length cap] w fun e w' => e = .returned (.bool true) ∧ Below w.heap.size w w' := by
  have hm := and31 n
  obtain ⟨m, hmm⟩ : ∃ m : Nat, n % 32 = m := ⟨(n % 32).toNat, by omega⟩
  have hm31 : m ≤ 31 := by omega
  rw [hmm] at hm
  have hk := fun (x : Int) => and255 x
  have hmk := @run_makeMap Try.prog
  obtain ⟨lo, hlo⟩ : ∃ k, os.length = k := ⟨_, rfl⟩
  rw [hlo] at hlen ⊢
  have HLO := Lib.hid hlo; have HO := Lib.hid ho; have HMM := Lib.hid hmm
  clear hlo ho hmm
  go_enter Try.func3, Try.ntmps3
  go_wp2_with fail
  refine (st_arena T (St.start w w (Below.refl _ _))).mono ?_
  rintro e w1 ⟨pa, rfl, h1⟩
  go_wp2_with fail
  refine (st_arena T h1).mono ?_
  rintro e w2 ⟨pb, rfl, h2⟩
  have H2 := Lib.hid h2.swap
  clear h1 h2
  go_upto_block 0 with fail
  go_cut [7] (fun _ wx => St w wx (star (T.IsA (.pointer (some pa)) (rowsTo (m + 1))) (star (T.IsA (.pointer (some pb)) []) nothing)))
  case first =>
    go_wp2_with fail
    go_loopw [7] (fun i wr => ∃ k : Nat, k ≤ m + 1 ∧ i = .int .i64 k ∧ St w wr (star (T.IsA (.pointer (some pa)) (rowsTo k)) (star (T.IsA (.pointer (some pb)) []) nothing))) (fun i _ => m + 1 - (intOf i).toNat)
    case atStart => exact ⟨0, by omega, rfl, H2.out⟩
    case round =>
      obtain ⟨k, hk', rfl, hst⟩ := hrel
      by_cases hkm : k < m + 1
      · go_wp2_with fail
        have K := (hst.alloc (.cells #[.int .u8 (k : Int)] 5)).digest (some ⟨wr.heap.size, 0, none⟩) 1 1 (one k) (by rw [rowsTo_length]; omega) rfl (by decide) (by decide) (fun h => by cases h) (lie8_made wr (one k) #[.int .u8 (k : Int)] 5 (0, 0) (one_cells k (by omega)).symm)
        rw [(rowsTo_new k (by omega)).1, (rowsTo_new k (by omega)).2] at K
        refine K.mono ?_
        clear K hst
        rintro e w3 ⟨rfl, h3⟩
        have H3 := Lib.hid h3
        clear h3
        go_wp2_with fail
        go_roundw
        case rel => exact ⟨k + 1, by omega, by go_num, H3.out⟩
        case measure => simp [intOf]; omega
      · obtain rfl : k = m + 1 := by omega
        go_wp2_with fail
        go_meet
        exact hst
  case rest =>
    have H3 := Lib.hid hcut
    clear hcut H2
    obtain ⟨w3, rfl⟩ : ∃ w3 : World, w3 = wc := ⟨_, rfl⟩
    have hstart : ManyAt T w (w3.alloc (.map #[] 0)) pa pb w3.heap.size (m + 1) 0 :=
      ⟨[], fun _ => none, by simp, by simp, fun j _ => by simp, H3.out.add ((Below.refl _ _).alloc (Nat.le_refl _) _) (MI.made w3 3) (fun k hk => by rw [hk]; exact Nat.le_refl _)⟩
    have HS := Lib.hid hstart
    clear hstart
    go_upto_block 2 with fail
    generalize w3.alloc (.map #[] 0) = w4 at HS ⊢
    generalize w3.heap.size = B at HS ⊢
    go_cut [9] (fun _ wx => ManyAt T w wx pa pb B (m + 1) 40)
    case first =>
      go_wp2_with fail
      go_loopw [9] (fun i wr => ∃ i' : Nat, i' ≤ lo ∧ i' ≤ 40 ∧ i = .int .i64 i' ∧ ManyAt T w wr pa pb B (m + 1) i') (fun i _ => 40 - (intOf i).toNat)
      case atStart => exact ⟨0, by omega, by omega, rfl, HS.out⟩
      case round =>
        obtain ⟨i, hi, hi40, rfl, hat⟩ := hrel
        by_cases hgo : i < lo ∧ i < 40
        · obtain ⟨hi1, hi2⟩ := hgo
          obtain ⟨ks, f, hkl, hks, hsi, hst⟩ := hat
          have hio : i < os.length := by rw [HLO.out]; exact hi1
          obtain ⟨b, off, rfl, hbw, hcs⟩ : ∃ b off : Nat, A = some ⟨b, off, none⟩ ∧ b < w.heap.size ∧ ∀ i (h : i < os.length), w.cell? ⟨b, off + i, none⟩ = some (.int .i64 os[i]) := by
            rcases HO.out with h | h
            · rw [h] at hio; simp at hio
            · exact h
          have hcell := (hst.below.cell (p := ⟨b, off + i, none⟩) hbw).trans (hcs i hio)
          have hx := hk os[i]
          have hx0 : 0 ≤ os[i] % 256 := by omega
          have hx1 : os[i] % 256 < 256 := by omega
          obtain ⟨k, hkk⟩ : ∃ k : Nat, os[i] % 256 % ((m : Int) + 1) = k := ⟨(os[i] % 256 % ((m : Int) + 1)).toNat, by have := Int.emod_nonneg (os[i] % 256) (show (m : Int) + 1 ≠ 0 by omega); omega⟩
          have hkm : k < m + 1 := by have := Int.emod_lt_of_pos (os[i] % 256) (show 0 < (m : Int) + 1 by omega); omega
          generalize os[i] = x at hcell hx hx0 hx1 hkk
          have HKS := Lib.hid hks; have HSI := Lib.hid hsi; have HST := Lib.hid hst
          clear hks hsi hst hcs hk hmk
          go_wp2_with fail
          have K := (HST.out.swap.alloc (.cells #[.int .u8 (k : Int)] 5)).digest (some ⟨wr.heap.size, 0, none⟩) 1 1 (one k) (by rw [rowsTo_length]; omega) rfl (by decide) (by decide) (fun h => by cases h) (lie8_made wr (one k) #[.int .u8 (k : Int)] 5 (0, 0) (one_cells k (by omega)).symm)
          rw [(rowsTo_old (m + 1) k (by omega) hkm).1, (rowsTo_old (m + 1) k (by omega) hkm).2] at K
          refine K.mono ?_
          clear K HST hcell hx
          rintro e w5 ⟨rfl, h5⟩
          have h5s := h5.swap
          have hlk := h5s.mi_look (tm := 27) (key := .int .i64 (k : Int)) (kl := .int .i64 (k : Int)) (Maps.int_keyed Try.underlying3) Try.underlying27 (Maps.keyOf_int_mk Try.underlying3 (WalkArith.wf_i64 (by omega))) True.intro
          rw [HSI.out k hkm] at hlk
          have H5 := Lib.hid h5s
          clear h5 h5s
          rcases Classical.em (k ∈ ks) with hin | hnin
          case' inl =>
            rw [if_pos hin] at hlk
            have hq : ks.idxOf k ≤ 40 := by have := List.idxOf_le_length (l := ks) (a := k); omega
            have hmid := mid_old hi40 (by omega) hkl HKS.out HSI.out hkm hin H5.out
            generalize ks.idxOf k = q at hlk hq hmid
            simp only [Option.getD_some] at hlk
            obtain ⟨c, hc⟩ : ∃ c : Int, (q : Int) + 1 = c := ⟨_, rfl⟩
            rw [hc] at hmid
            have HMID := Lib.hid hmid
            clear hc hmid H5 HSI HKS hkl hin
            obtain ⟨wv, rfl⟩ : ∃ wv : World, wv = w5 := ⟨_, rfl⟩
            go_upto_region 19 with fail
          case' inr =>
            rw [if_neg hnin] at hlk
            simp only [Option.getD_none] at hlk
            obtain ⟨D, hown, hD⟩ := H5.out.mi
            have hwf := plainElem_int (H := Unit) Try.underlying3 (WalkArith.wf_i64 (n := (ks.length : Int) + 1) (by omega))
            have hkey := Maps.keyOf_int_mk Try.underlying3 (WalkArith.wf_i64 (n := (k : Int)) (by omega))
            go_upto_region 19 with (first
              | (at_len; refine wpList_len_own _ rfl (.tmp 67) 27 rfl 3 3 Try.underlying27 (plainElem Try.prog 3) B _ D rfl hown ?_; rw [hD.2.1])
              | (at_mapUpdate; refine wpList_mapUpdate_own _ rfl (.tmp 65) (.tmp 66) (.tmp 69) 27 rfl 3 3 (Maps.int_keyed Try.underlying3) Try.underlying27 _ B _ D rfl hown (by unfold maxLen; omega) _ _ _ rfl rfl hkey _ [] hwf ?_; intro w6 hown6 hg6; have h6 := H5.out.mi_put (k := .int .i64 (k : Int)) hD True.intro hown6 hg6; have hmid := mid_new hi40 (by omega) hkl HKS.out HSI.out hkm hnin h6; clear hlk hown hown6 hg6 h6))
            obtain ⟨wv, rfl⟩ : ∃ wv : World, wv = w6 := ⟨_, rfl⟩
            try go_frame
            obtain ⟨c, hc⟩ : ∃ c : Int, (ks.length : Int) + 1 = c := ⟨_, rfl⟩
            rw [hc] at hmid
            have HMID := Lib.hid hmid
            clear hc hmid H5 HSI HKS hkl hnin hkey hwf hD
          all_goals
            go_cut [78] (fun s78 wx => s78 = .bool false ∧ ManyAt T w wx pa pb B (m + 1) (i + 1))
            case first =>
              obtain ⟨ks', f', L, g1, g2, g3, g4, g5, g6, g7, g8⟩ := HMID.out
              have l0 := (g8.drew).mi_look (tm := 27) (key := .int .i64 (k : Int)) (kl := .int .i64 (k : Int)) (Maps.int_keyed Try.underlying3) Try.underlying27 (Maps.keyOf_int_mk Try.underlying3 (WalkArith.wf_i64 (by omega))) True.intro
              have l1 := fun (o : Obj) => ((g8.alloc o).drew).mi_look (tm := 27) (key := .int .i64 (k : Int)) (kl := .int .i64 (k : Int)) (Maps.int_keyed Try.underlying3) Try.underlying27 (Maps.keyOf_int_mk Try.underlying3 (WalkArith.wf_i64 (by omega))) True.intro
              have KK := ((g8.alloc (.cells #[.int .u8 (k : Int)] 5)).drew).third.digest (some ⟨wv.heap.size, 0, none⟩) 1 1 (one k) g2 rfl (by decide) (by decide) (fun h => by cases h) ((lie8_made wv (one k) #[.int .u8 (k : Int)] 5 (0, 0) (one_cells k (by omega)).symm).below (Below.refl _ _).drew)
              rw [g6, g7] at KK
              rw [g5] at l0
              simp only [g5] at l1
              have HK := Lib.hid KK; have G3 := Lib.hid g3; have G4 := Lib.hid g4; have G5 := Lib.hid g5
              clear KK g3 g4 g5 g6 g7 g8 g2
              have hwk : IntKind.u8.wrap (k : Int) = k := by show (k : Int) % 256 = k; omega
              go_region_with (go_at_call 8; refine HK.out.mono ?_; rintro e w7 ⟨rfl, h7⟩; have l2 := h7.third'.mi_look (tm := 27) (key := .int .i64 (k : Int)) (kl := .int .i64 (k : Int)) (Maps.int_keyed Try.underlying3) Try.underlying27 (Maps.keyOf_int_mk Try.underlying3 (WalkArith.wf_i64 (by omega))) True.intro; rw [G5.out] at l2; have H7 := Lib.hid h7; clear h7)
              all_goals
                go_wp2_with fail
                go_meet
                exact ⟨rfl, ks', f', g1, G3.out, G4.out, H7.out.third'⟩
            case rest =>
              obtain ⟨rfl, hm2⟩ := hcut
              have HM2 := Lib.hid hm2
              clear hm2
              go_wp2_with fail
              go_roundw
              case rel => exact ⟨i + 1, by omega, by omega, by go_num, HM2.out⟩
              case measure => simp [intOf]; omega
        · have hfin : ManyAt T w wr pa pb B (m + 1) 40 := by
            obtain ⟨ks, f, hkl, r⟩ := hat
            exact ⟨ks, f, by omega, r⟩
          have HFIN := Lib.hid hfin
          clear hfin hat
          have hge : i = lo ∨ (i < lo ∧ i = 40) := by omega
          rcases hge with rfl | ⟨hlt, rfl⟩
          all_goals
            go_wp2_with fail
            go_meet
            exact HFIN.out
    case rest =>
      obtain ⟨ks, f, hkl, _, _, hst⟩ := hcut
      obtain ⟨w5, rfl⟩ : ∃ w5 : World, w5 = wc := ⟨_, rfl⟩
      clear HS hk hmk H3
      go_wp2_with fail
      refine (hst.swap.len (by rw [rowsTo_length]; omega)).mono ?_
      rintro e w6 ⟨rfl, h6, _⟩
      rw [rowsTo_length]
      have hne : (((m + 1 : Nat) : Int) == (m : Int) + 1) = true := by simp
      go_wp2_with fail
      refine (h6.swap.third.len (by simp; omega)).mono ?_
      rintro e w7 ⟨rfl, h7, _⟩
      rw [List.length_map]
      obtain ⟨D, hown, hD⟩ := h7.third'.mi
      have H7 := Lib.hid h7.below
      clear h7 h6 hst
      have hl := hown.len Try.underlying27 3
      rw [hD.2.1] at hl
      clear hown hD
      go_wp2_with fail
      refine (awake_any T _).mono ?_
      rintro e w8 ⟨rfl, hb8⟩
      go_wp2_with fail
      go_ret
      exact ⟨rfl, H7.out.trans (hb8.mono H7.out.size)⟩
end Go.Proofs.Ytlodklmcamanpaa
