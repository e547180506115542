/- TermLong answers true, and makes only new memory: the walk. Conditions: term's calls are as their contracts say; the bytes lie in memory. -/
import Derived.Test.YtlodklmcamanpaaTermLong
import Derived.Test.YtlodklmcamanpaaAppend8
import Derived.Test.YtlodklmcamanpaaDag
import Derived.Test.YtlodklmcamanpaaTermLongI
namespace Go.Proofs.Ytlodklmcamanpaa
open Go.RowKit Go.WideShapes

theorem below_row {w w1 w2 : World} {B : Nat} {v : Value} {n : Nat} {l : List UInt8} (h : Below B w w1) (hw : B = w.heap.size) (hown : w1.ownsRow B 5 1 v n (cells8 l)) (hg : w1.grownBy w2 v.ownBlock) : Below B w w2 :=
  h.grown hg (by have := h.size; omega) (fun k hk => (hown.lt k hk).1)
/-- A row of the call's own, as an argument. -/
theorem row_arg {w : World} {B n : Nat} {v : Value} {l : List UInt8} (h : w.ownsRow B 5 1 v n (cells8 l)) (hn : l.length = n) (h0 : n ≠ 0) : ∃ g cap, v = .slice (some ⟨g, 0, none⟩) n cap ∧ n ≤ cap ∧ Lie8 w (fun _ => False) (some ⟨g, 0, none⟩) l := by
  subst hn
  obtain ⟨g, cap, rfl⟩ := own_shape h h0
  obtain ⟨A, cap', e, _, hc, _, hl⟩ := lie8_own (F := fun _ => False) h (fun _ _ h => h)
  injection e with e1 _ e2
  subst e1; subst e2
  exact ⟨g, cap, rfl, hc, hl⟩

set_option maxRecDepth 100000 in
set_option maxHeartbeats 16000000 in
theorem long_some (T : TermApi) (A : Option Addr) (cap : Nat) (t : List UInt8) (at_ : Int) (c : UInt8) (hl : t.length ≤ 300) (hnc : t.length ≤ cap) (hA : A = none → cap = 0) (w : World) (hlie : Lie8 w (fun _ => False) A t) :
    Calls Try.prog 4 #[.slice A t.length cap, .int .i64 at_, .int .u8 (c.toNat : Int)] w fun e w' => e = .returned (.bool true) ∧ Below w.heap.size w w' := by
  have HL := Lib.hid hlie; have HA := Lib.hid hA
  obtain ⟨n, hn⟩ : ∃ n, t.length = n := ⟨_, rfl⟩
  rw [hn] at hl hnc ⊢
  have HN := Lib.hid hn
  clear hlie hA hn
  have hc0 : (0 : Int) ≤ (c.toNat : Int) := by omega
  have hc1 : (c.toNat : Int) < 256 := by have := c.toNat_lt; omega
  obtain ⟨bn, hbn⟩ : ∃ b : Int, (c.toNat : Int) = b := ⟨_, rfl⟩
  rw [hbn] at hc0 hc1 ⊢
  have HBN := Lib.hid hbn
  clear hbn
  have hcell : (#[.int .u8 bn] : Array Value).toList = cells8 [c] := by rw [← HBN.out]; rfl
  have HCL := Lib.hid hcell
  clear hcell
  go_enter Try.func4, Try.ntmps4
  go_wp2_with fail
  refine (st_arena T (St.start w w (Below.refl _ _))).mono ?_
  rintro e w1 ⟨p, rfl, h1⟩
  have H1 := Lib.hid h1
  clear h1
  go_wp2_with fail
  have K := H1.out.digest A n cap t (by decide) HN.out (by omega) hnc HA.out (HL.out.below H1.out.below)
  rw [(lng_1 t).1, (lng_1 t).2] at K
  refine K.mono ?_
  clear K
  rintro e w2 ⟨rfl, h2⟩
  have H2 := Lib.hid h2
  clear h2 H1
  have hb2 : Below w2.heap.size w2 (w2.alloc (.cells #[] 5)) := (Below.refl _ _).alloc (Nat.le_refl _) _
  have HB2 := Lib.hid hb2
  clear hb2
  go_wp2_with (first
    | (at_builtin; refine wpList_append8 rfl (.tmp 31) (.tmp 32) rfl w2.heap.size _ 0 [] rfl (row_none w2) A n cap t rfl HN.out hnc HA.out ((HL.out.below H2.out.below).below HB2.out) (by omega) (by simp) ?_; intro v3 w3 hown3 hg3 _; have hb3 := below_row HB2.out rfl (row_none w2) hg3; have HO3 := Lib.hid hown3; have HB3 := Lib.hid hb3; clear hown3 hg3 hb3)
    | (at_builtin; refine wpList_append8 rfl (.tmp 33) (.tmp 35) rfl w2.heap.size _ (0 + n) ([] ++ t) rfl (HO3.out.alloc _) (some ⟨w3.heap.size, 0, none⟩) 1 1 [c] rfl rfl (by decide) (fun h => by cases h) (lie8_made w3 [c] _ _ _ HCL.out) (by omega) (by have := HB3.out.size; simp; omega) ?_; intro v4 w4 hown4 hg4 _; have hb4 := below_row (HB3.out.alloc HB3.out.size _) rfl (HO3.out.alloc _) hg4; have HO4 := Lib.hid hown4; have HB4 := Lib.hid hb4; clear hown4 hg4 hb4))
  obtain ⟨g4, cap4, rfl, hnc4, hlie4⟩ := row_arg HO4.out (by simp [HN.out]) (by omega)
  have K := (H2.out.more HB4.out).digest (some ⟨g4, 0, none⟩) (0 + n + 1) cap4 (t ++ [c]) (by simp) (by simp [HN.out]) (by omega) hnc4 (fun h => by cases h) hlie4
  rw [(lng_2 t c).1, (lng_2 t c).2] at K
  refine K.mono ?_
  clear K hlie4 HO4 HB4 HO3 HB3 HB2 hnc4
  rintro e w5 ⟨rfl, h5⟩
  have H5 := Lib.hid h5
  clear h5 H2
  have hb5 : Below w5.heap.size w5 (w5.alloc (.cells #[.int .u8 bn] 5)) := (Below.refl _ _).alloc (Nat.le_refl _) _
  have HB5 := Lib.hid hb5
  have HR5 := Lib.hid (row_lit w5 [c] #[.int .u8 bn] 1 HCL.out rfl (by decide))
  clear hb5
  go_wp2_with (first
    | (at_builtin; refine wpList_append8 rfl (.tmp 40) (.tmp 41) rfl w5.heap.size _ 1 [c] rfl HR5.out A n cap t rfl HN.out hnc HA.out ((HL.out.below H5.out.below).below HB5.out) (by omega) (by simp) ?_; intro v6 w6 hown6 hg6 _; have hb6 := below_row HB5.out rfl HR5.out hg6; have HO6 := Lib.hid hown6; have HB6 := Lib.hid hb6; clear hown6 hg6 hb6))
  obtain ⟨g6, cap6, rfl, hnc6, hlie6⟩ := row_arg HO6.out (by simp [HN.out]; omega) (by omega)
  have K := (H5.out.more HB6.out).digest (some ⟨g6, 0, none⟩) (1 + n) cap6 (c :: t) (by simp) (by simp [HN.out]; omega) (by omega) hnc6 (fun h => by cases h) hlie6
  obtain ⟨f3, hf3⟩ : ∃ f, digOf [t, t ++ [c]] (c :: t) = f := ⟨_, rfl⟩
  obtain ⟨L3, hL3⟩ : ∃ L, digAdd [t, t ++ [c]] (c :: t) = L := ⟨_, rfl⟩
  rw [hf3, hL3] at K
  refine K.mono ?_
  clear K hlie6 HO6 HB6 HR5 HB5 hnc6
  rintro e w7 ⟨rfl, h7⟩
  obtain ⟨M3, rfl, hM3⟩ : ∃ M, L3 = t :: M ∧ M.length ≤ 2 := by
    obtain ⟨M, h1, h2⟩ := lng_add t (c :: t) [t ++ [c]]
    exact ⟨M, by rw [← hL3, h1], h2⟩
  have HF3 : Hid ((f3 == 2) = decide (c :: t = t ++ [c])) := Lib.hid (by
    rcases lng_3 t c with ⟨h1, h2, _⟩ | ⟨h1, h2, _⟩
    · rw [← hf3, h2, decide_eq_true h1]; rfl
    · rw [← hf3, h2, decide_eq_false h1]; rfl)
  have H7 := Lib.hid h7
  clear h7 H5 hf3 hL3
  go_upto_if 47 with fail
  go_cut [11] (fun s11 wx => ∃ g M, s11 = .int .i64 g ∧ M.length ≤ 3 ∧ ((g == 1) = decide (c = 0 ∨ n = 0)) ∧ St w wx (star (T.IsA (.pointer (some p)) (t :: M)) nothing))
  case first =>
    have hm := and65535 at_
    have hm0 : 0 ≤ at_ % 65536 := by omega
    have hm1 : at_ % 65536 < 65536 := by omega
    by_cases hn0 : n = 0
    · subst hn0
      go_wp2_with fail
      go_meet
      exact ⟨1, M3, rfl, by omega, by simp, H7.out⟩
    · have hnp : 0 < n := by omega
      obtain ⟨k, hk⟩ : ∃ k : Nat, at_ % 65536 % n = k := ⟨(at_ % 65536 % n).toNat, by have := Int.emod_nonneg (at_ % 65536) (show (n : Int) ≠ 0 by omega); omega⟩
      have hkn : k < n := by have := Int.emod_lt_of_pos (at_ % 65536) (show 0 < (n : Int) by omega); omega
      have hne : ((n : Int) == 0) = false := by simp; omega
      have hkt : k < t.length := by rw [HN.out]; exact hkn
      have hb7 : Below w7.heap.size w7 (w7.alloc (.cells #[] 5)) := (Below.refl _ _).alloc (Nat.le_refl _) _
      have HB7 := Lib.hid hb7
      clear hb7
      go_wp2_with (first
        | (at_builtin; refine wpList_append8 rfl (.tmp 48) (.tmp 49) rfl w7.heap.size _ 0 [] rfl (row_none w7) A n cap t rfl HN.out hnc HA.out ((HL.out.below H7.out.below).below HB7.out) (by omega) (by simp) ?_; intro v8 w8 hown8 hg8 _; have hb8 := below_row HB7.out rfl (row_none w7) hg8; have hown8' : w8.ownsRow w7.heap.size 5 1 v8 t.length (cells8 t) := (by rw [HN.out]; simpa using hown8); have h8 := H7.out.add hb8 (B8.of hown8') (fun k hk => (hown8'.lt k hk).1); clear hown8 hg8 hb8 hown8'; obtain ⟨g8, cap8, rfl, hnc8, _, hc8, hf8⟩ := h8.cells (by rw [HN.out]; omega); rw [HN.out] at hnc8; have hck := hc8 k hkt; have hfk := hf8 k; have hxor := bits_xor8 t[k] c; rw [HBN.out] at hxor; obtain ⟨tk, htk⟩ : ∃ x : Int, (t[k].toNat : Int) = x := ⟨_, rfl⟩; rw [htk] at hck hxor; have H8 := Lib.hid h8; clear h8 hc8 hf8 htk; rw [HN.out]))
      have h9 := H8.out.set8 k (t[k] ^^^ c)
      rw [HN.out] at h9
      obtain ⟨u, hu⟩ : ∃ u, t.set k (t[k] ^^^ c) = u := ⟨_, rfl⟩
      rw [hu] at h9
      have hul : u.length = n := by rw [← hu, List.length_set, HN.out]
      obtain ⟨_, _, e, _, _, hlu⟩ := (hul ▸ h9 : St w _ (star (B8 (.slice (some ⟨g8, 0, none⟩) u.length cap8) u) _)).lie
      injection e with e1 _ e2
      subst e1; subst e2
      have K := h9.swap.digest (some ⟨g8, 0, none⟩) n cap8 u (by simp; omega) hul (by omega) hnc8 (fun h => by cases h) hlu
      obtain ⟨g, hg⟩ : ∃ g, digOf (t :: M3) u = g := ⟨_, rfl⟩
      obtain ⟨M, hM, hMl⟩ := lng_add t u M3
      rw [hg, hM] at K
      have hgb : (g == 1) = decide (c = 0 ∨ n = 0) := by
        by_cases h : u = t
        · have hc : c = 0 := by rw [← hu, set_same hkt, xor_same] at h; exact h
          rw [h, (lng_same t M3).1] at hg
          rw [← hg, hc]; simp
        · have hc : c ≠ 0 := fun hc => h (by rw [← hu, set_same hkt, xor_same]; exact hc)
          have := lng_4 t u M3 h
          rw [hg] at this
          simp [hc, hn0, this]
      clear hck hfk hxor h9 hlu
      refine K.mono ?_
      clear K
      rintro e w10 ⟨rfl, h10⟩
      have H10 := Lib.hid h10.swap.snd
      have HGB := Lib.hid hgb
      clear h10 hgb hg hM hu
      go_wp2_with fail
      go_meet
      exact ⟨g, M, rfl, by omega, HGB.out, H10.out⟩
  case rest =>
    obtain ⟨g, M, rfl, hMl, hgb, hst⟩ := hcut
    obtain ⟨w10, rfl⟩ : ∃ w10 : World, w10 = wc := ⟨_, rfl⟩
    have HST := Lib.hid hst; have HGB := Lib.hid hgb
    obtain ⟨o1, o2, o3⟩ := ofOk_no (t :: M)
    have R1 := ofRow_no o1; have R2 := ofRow_no o2; have R3 := ofRow_no o3
    have HLM : (t :: M).length ≤ 4 := by simp; omega
    obtain ⟨nl, hnl⟩ : ∃ k, (t :: M).length = k := ⟨_, rfl⟩
    rw [hnl] at o1 R1 HLM
    have HNL := Lib.hid hnl
    have HO1 := Lib.hid o1; have HO2 := Lib.hid o2; have HO3 := Lib.hid o3; have HR1 := Lib.hid R1; have HR2 := Lib.hid R2; have HR3 := Lib.hid R3
    clear hst hgb H7 o1 o2 o3 R1 R2 R3 hnl
    go_wp2_with fail
    refine (HST.out.len (by rw [HNL.out]; omega)).mono ?_
    rintro e w11 ⟨rfl, h11, _⟩
    rw [HNL.out]
    go_wp2_with fail
    have K := h11.of ((nl : Int) + 1) (by rw [HNL.out]; omega) (by omega) (by omega)
    rw [HO1.out, HR1.out] at K
    refine K.mono ?_
    clear K
    rintro e w12 ⟨x1, rfl, h12⟩
    have h12' := h12.snd
    go_wp2_with fail
    have K := h12'.of 0 (by rw [HNL.out]; omega) (by omega) (by omega)
    rw [HO2.out, HR2.out] at K
    refine K.mono ?_
    clear K
    rintro e w13 ⟨x2, rfl, h13⟩
    have h13' := h13.snd
    go_wp2_with fail
    have K := h13'.of (-1) (by rw [HNL.out]; omega) (by omega) (by omega)
    rw [HO3.out, HR3.out] at K
    refine K.mono ?_
    clear K
    rintro e w14 ⟨x3, rfl, h14⟩
    have H14 := Lib.hid h14.snd
    clear h11 h12 h12' h13 h13' h14 HO1 HO2 HO3 HR1 HR2 HR3
    go_upto_region 18 with fail
    go_cut [6] (fun s6 wx => s6 = .bool true ∧ Below w.heap.size w wx)
    case first =>
      obtain ⟨s1, hs1⟩ : ∃ s : ByteArray, s = ⟨([c] ++ t).toArray⟩ := ⟨_, rfl⟩
      obtain ⟨s2, hs2⟩ : ∃ s : ByteArray, s = ⟨(([] ++ t) ++ [c]).toArray⟩ := ⟨_, rfl⟩
      have HS1 := Lib.hid hs1; have HS2 := Lib.hid hs2
      clear hs1 hs2
      refine wp_region_any (by kernel_rfl) ?_
      try (change wpAny _ _ _ _ _ _ _ (World.drew _))
      refine wpAny_take (i := 0) (v := ?_) rfl (by kernel_rfl) (by kernel_rfl) (by kernel_rfl) (fun _ _ _ h => h) (Or.inl ⟨by rfl, ?_⟩) ?_
      rotate_left
      · (intro w; go_simp; try with_reducible rfl)
      conv => arg 7; simp only [List.getElem_toArray, List.getElem_cons_zero, List.getElem_cons_succ, Act.put, List.setIfInBounds_toArray, List.set_cons_zero, List.set_cons_succ]
      refine wpAny_take (i := 1) (v := ?_) rfl (by kernel_rfl) (by kernel_rfl) (by kernel_rfl) (fun _ _ _ h => h) (Or.inl ⟨by rfl, ?_⟩) ?_
      rotate_left
      · (intro w; go_simp; try with_reducible rfl)
      conv => arg 7; simp only [List.getElem_toArray, List.getElem_cons_zero, List.getElem_cons_succ, Act.put, List.setIfInBounds_toArray, List.set_cons_zero, List.set_cons_succ]
      refine wpAny_take (i := 2) (v := ?_) rfl (by kernel_rfl) (by kernel_rfl) (by kernel_rfl) (fun _ _ _ h => h) (Or.inl ⟨by rfl, ?_⟩) ?_
      rotate_left
      · (intro w; go_simp; try with_reducible rfl)
      conv => arg 7; simp only [List.getElem_toArray, List.getElem_cons_zero, List.getElem_cons_succ, Act.put, List.setIfInBounds_toArray, List.set_cons_zero, List.set_cons_succ]
      refine wpAny_take (i := 3) (v := ?_) rfl (by kernel_rfl) (by kernel_rfl) (by kernel_rfl) (fun _ _ _ h => h) (Or.inl ⟨by rfl, ?_⟩) ?_
      rotate_left
      · (intro w; go_simp; try with_reducible rfl)
      conv => arg 7; simp only [List.getElem_toArray, List.getElem_cons_zero, List.getElem_cons_succ, Act.put, List.setIfInBounds_toArray, List.set_cons_zero, List.set_cons_succ]
      refine wpAny_take (i := 4) (v := ?_) rfl (by kernel_rfl) (by kernel_rfl) (by kernel_rfl) (fun _ _ _ h => h) (Or.inl ⟨by rfl, ?_⟩) ?_
      rotate_left
      · (intro w; go_simp; try with_reducible rfl)
      conv => arg 7; simp only [List.getElem_toArray, List.getElem_cons_zero, List.getElem_cons_succ, Act.put, List.setIfInBounds_toArray, List.set_cons_zero, List.set_cons_succ]
      refine wpAny_take (i := 5) (v := ?_) rfl (by kernel_rfl) (by kernel_rfl) (by kernel_rfl) (fun _ _ _ h => h) (Or.inl ⟨by rfl, ?_⟩) ?_
      rotate_left
      · (intro w; go_simp; try with_reducible rfl)
      conv => arg 7; simp only [List.getElem_toArray, List.getElem_cons_zero, List.getElem_cons_succ, Act.put, List.setIfInBounds_toArray, List.set_cons_zero, List.set_cons_succ]
      refine wpAny_take (i := 6) (v := ?_) rfl (by kernel_rfl) (by kernel_rfl) (by kernel_rfl) (fun _ _ _ h => h) (Or.inl ⟨by rfl, ?_⟩) ?_
      rotate_left
      · (intro w; go_simp; try with_reducible rfl)
      conv => arg 7; simp only [List.getElem_toArray, List.getElem_cons_zero, List.getElem_cons_succ, Act.put, List.setIfInBounds_toArray, List.set_cons_zero, List.set_cons_succ]
      refine wpAny_take (i := 7) (v := ?_) rfl (by kernel_rfl) (by kernel_rfl) (by kernel_rfl) (fun _ _ _ h => h) (Or.inl ⟨by rfl, ?_⟩) ?_
      rotate_left
      · (intro w; go_simp; try with_reducible rfl)
      conv => arg 7; simp only [List.getElem_toArray, List.getElem_cons_zero, List.getElem_cons_succ, Act.put, List.setIfInBounds_toArray, List.set_cons_zero, List.set_cons_succ]
      refine wpAny_take (i := 8) (v := ?_) rfl (by kernel_rfl) (by kernel_rfl) (by kernel_rfl) (fun _ _ _ h => h) (Or.inl ⟨by rfl, ?_⟩) ?_
      rotate_left
      · (intro w; go_simp; try with_reducible rfl)
      conv => arg 7; simp only [List.getElem_toArray, List.getElem_cons_zero, List.getElem_cons_succ, Act.put, List.setIfInBounds_toArray, List.set_cons_zero, List.set_cons_succ]
      refine wpAny_take (i := 9) (v := ?_) rfl (by kernel_rfl) (by kernel_rfl) (by kernel_rfl) (fun _ _ _ h => h) (Or.inl ⟨by rfl, ?_⟩) ?_
      rotate_left
      · (intro w; go_simp; try with_reducible rfl)
      conv => arg 7; simp only [List.getElem_toArray, List.getElem_cons_zero, List.getElem_cons_succ, Act.put, List.setIfInBounds_toArray, List.set_cons_zero, List.set_cons_succ]
      refine wpAny_take (i := 10) (v := ?_) rfl (by kernel_rfl) (by kernel_rfl) (by kernel_rfl) (fun _ _ _ h => h) (Or.inl ⟨by rfl, ?_⟩) ?_
      rotate_left
      · (intro w; go_simp; try with_reducible rfl)
      conv => arg 7; simp only [List.getElem_toArray, List.getElem_cons_zero, List.getElem_cons_succ, Act.put, List.setIfInBounds_toArray, List.set_cons_zero, List.set_cons_succ]
      refine wpAny_take (i := 12) (v := ?_) rfl (by kernel_rfl) (by kernel_rfl) (by kernel_rfl) (fun _ _ _ h => h) (Or.inl ⟨by rfl, ?_⟩) ?_
      rotate_left
      · (intro w; go_simp; try with_reducible rfl)
      conv => arg 7; simp only [List.getElem_toArray, List.getElem_cons_zero, List.getElem_cons_succ, Act.put, List.setIfInBounds_toArray, List.set_cons_zero, List.set_cons_succ]
      refine wpAny_take (i := 16) (v := ?_) rfl (by kernel_rfl) (by kernel_rfl) (by kernel_rfl) (fun _ _ _ h => h) (Or.inl ⟨by rfl, ?_⟩) ?_
      rotate_left
      · (intro w; go_simp; try with_reducible rfl)
      conv => arg 7; simp only [List.getElem_toArray, List.getElem_cons_zero, List.getElem_cons_succ, Act.put, List.setIfInBounds_toArray, List.set_cons_zero, List.set_cons_succ]
      refine wpAny_take (i := 18) (v := ?_) rfl (by kernel_rfl) (by kernel_rfl) (by kernel_rfl) (fun _ _ _ h => h) (Or.inl ⟨by rfl, ?_⟩) ?_
      rotate_left
      · (intro w; go_simp; try with_reducible rfl)
      conv => arg 7; simp only [List.getElem_toArray, List.getElem_cons_zero, List.getElem_cons_succ, Act.put, List.setIfInBounds_toArray, List.set_cons_zero, List.set_cons_succ]
      change wpAny _ _ _ _ (39 + 8) _ _ _
      have h0 : St w w14.drew (star nothing (star nothing (star nothing (star (T.IsA (.pointer (some p)) (t :: M)) nothing)))) := H14.out.drew.pad0.pad0.pad0
      refine wpAny_dag0 39 8 (LI w (star (T.IsA (.pointer (some p)) (t :: M)) nothing) t c s1 s2) (LI.s0 rfl rfl h0) ?_ ?_
      · intro k listed a W h
        cases h with
        | @s0 _ _ _ hl ha h =>
          subst hl; subst ha
          try simp only [Act.put, List.setIfInBounds_toArray, List.set_cons_zero, List.set_cons_succ]
          refine ⟨[11, 15, 19], by kernel_rfl, by simp, ?_⟩
          intro i hi
          simp only [List.mem_cons, List.not_mem_nil, or_false] at hi
          rcases hi with rfl | rfl | rfl
          · refine wpOp_step rfl (fun K' hK' => ?_)
            go_simp
            refine hK' _ _ ?_
            exact LI.s1 (x97 := (.slice (some ⟨W.heap.size, 0, none⟩) 1 1)) (by kernel_rfl) (by first | with_reducible rfl | (simp only [Act.put, List.setIfInBounds_toArray, List.set_cons_zero, List.set_cons_succ]; done) | (simp only [List.getElem_toArray, List.getElem_cons_zero, List.getElem_cons_succ, Act.put, List.setIfInBounds_toArray, List.set_cons_zero, List.set_cons_succ]; done)) (h.snd.add ((Below.refl _ _).alloc (Nat.le_refl _) _) (B8.of (row_lit W [c] #[.int .u8 bn] 1 HCL.out rfl (by decide))) (fun k hk => Nat.le_of_eq (Option.some.inj hk)))
          · refine wpOp_step rfl (fun K' hK' => ?_)
            go_simp
            refine hK' _ _ ?_
            exact LI.s2 (x101 := (.slice (some ⟨W.heap.size, 0, none⟩) 0 0)) (by kernel_rfl) (by first | with_reducible rfl | (simp only [Act.put, List.setIfInBounds_toArray, List.set_cons_zero, List.set_cons_succ]; done) | (simp only [List.getElem_toArray, List.getElem_cons_zero, List.getElem_cons_succ, Act.put, List.setIfInBounds_toArray, List.set_cons_zero, List.set_cons_succ]; done)) (h.swap.snd.add ((Below.refl _ _).alloc (Nat.le_refl _) _) (B8.of (row_none W)) (fun k hk => Nat.le_of_eq (Option.some.inj hk))).swap
          · refine wpOp_step rfl (fun K' hK' => ?_)
            go_simp
            refine hK' _ _ ?_
            exact LI.s3 (x105 := (.slice (some ⟨W.heap.size, 0, none⟩) 1 1)) (by kernel_rfl) (by first | with_reducible rfl | (simp only [Act.put, List.setIfInBounds_toArray, List.set_cons_zero, List.set_cons_succ]; done) | (simp only [List.getElem_toArray, List.getElem_cons_zero, List.getElem_cons_succ, Act.put, List.setIfInBounds_toArray, List.set_cons_zero, List.set_cons_succ]; done)) (h.third.snd.add ((Below.refl _ _).alloc (Nat.le_refl _) _) (B8.of (row_lit W [c] #[.int .u8 bn] 1 HCL.out rfl (by decide))) (fun k hk => Nat.le_of_eq (Option.some.inj hk))).third'
        | @s1 _ x97 _ _ hl ha h =>
          subst hl; subst ha
          try simp only [Act.put, List.setIfInBounds_toArray, List.set_cons_zero, List.set_cons_succ]
          refine ⟨[13, 15, 19], by kernel_rfl, by simp, ?_⟩
          intro i hi
          simp only [List.mem_cons, List.not_mem_nil, or_false] at hi
          rcases hi with rfl | rfl | rfl
          · refine wpOp_step rfl (fun K' hK' => ?_)
            refine step_append8 true (by rfl) rfl (.tmp 97) (.tmp 98) rfl 0 x97 [c].length [c] (by rfl) h.b8 A n cap t (by rfl) HN.out hnc HA.out (HL.out.below h.below) (by simp; omega) (Nat.zero_le _) ?_
            intro v' W' hown hg hfr
            refine hK' _ _ ?_
            exact LI.s4 (x97 := x97) (x99 := v') (by kernel_rfl) (by first | with_reducible rfl | (simp only [Act.put, List.setIfInBounds_toArray, List.set_cons_zero, List.set_cons_succ]; done) | (simp only [List.getElem_toArray, List.getElem_cons_zero, List.getElem_cons_succ, Act.put, List.setIfInBounds_toArray, List.set_cons_zero, List.set_cons_succ]; done)) (h.append8 (by rw [List.length_append, HN.out]) hown hg hfr)
          · refine wpOp_step rfl (fun K' hK' => ?_)
            go_simp
            refine hK' _ _ ?_
            exact LI.s5 (x97 := x97) (x101 := (.slice (some ⟨W.heap.size, 0, none⟩) 0 0)) (by kernel_rfl) (by first | with_reducible rfl | (simp only [Act.put, List.setIfInBounds_toArray, List.set_cons_zero, List.set_cons_succ]; done) | (simp only [List.getElem_toArray, List.getElem_cons_zero, List.getElem_cons_succ, Act.put, List.setIfInBounds_toArray, List.set_cons_zero, List.set_cons_succ]; done)) (h.swap.snd.add ((Below.refl _ _).alloc (Nat.le_refl _) _) (B8.of (row_none W)) (fun k hk => Nat.le_of_eq (Option.some.inj hk))).swap
          · refine wpOp_step rfl (fun K' hK' => ?_)
            go_simp
            refine hK' _ _ ?_
            exact LI.s6 (x97 := x97) (x105 := (.slice (some ⟨W.heap.size, 0, none⟩) 1 1)) (by kernel_rfl) (by first | with_reducible rfl | (simp only [Act.put, List.setIfInBounds_toArray, List.set_cons_zero, List.set_cons_succ]; done) | (simp only [List.getElem_toArray, List.getElem_cons_zero, List.getElem_cons_succ, Act.put, List.setIfInBounds_toArray, List.set_cons_zero, List.set_cons_succ]; done)) (h.third.snd.add ((Below.refl _ _).alloc (Nat.le_refl _) _) (B8.of (row_lit W [c] #[.int .u8 bn] 1 HCL.out rfl (by decide))) (fun k hk => Nat.le_of_eq (Option.some.inj hk))).third'
        | @s2 _ x101 _ _ hl ha h =>
          subst hl; subst ha
          try simp only [Act.put, List.setIfInBounds_toArray, List.set_cons_zero, List.set_cons_succ]
          refine ⟨[11, 19], by kernel_rfl, by simp, ?_⟩
          intro i hi
          simp only [List.mem_cons, List.not_mem_nil, or_false] at hi
          rcases hi with rfl | rfl
          · refine wpOp_step rfl (fun K' hK' => ?_)
            go_simp
            refine hK' _ _ ?_
            exact LI.s5 (x97 := (.slice (some ⟨W.heap.size, 0, none⟩) 1 1)) (x101 := x101) (by kernel_rfl) (by first | with_reducible rfl | (simp only [Act.put, List.setIfInBounds_toArray, List.set_cons_zero, List.set_cons_succ]; done) | (simp only [List.getElem_toArray, List.getElem_cons_zero, List.getElem_cons_succ, Act.put, List.setIfInBounds_toArray, List.set_cons_zero, List.set_cons_succ]; done)) (h.snd.add ((Below.refl _ _).alloc (Nat.le_refl _) _) (B8.of (row_lit W [c] #[.int .u8 bn] 1 HCL.out rfl (by decide))) (fun k hk => Nat.le_of_eq (Option.some.inj hk)))
          · refine wpOp_step rfl (fun K' hK' => ?_)
            go_simp
            refine hK' _ _ ?_
            exact LI.s7 (x101 := x101) (x105 := (.slice (some ⟨W.heap.size, 0, none⟩) 1 1)) (by kernel_rfl) (by first | with_reducible rfl | (simp only [Act.put, List.setIfInBounds_toArray, List.set_cons_zero, List.set_cons_succ]; done) | (simp only [List.getElem_toArray, List.getElem_cons_zero, List.getElem_cons_succ, Act.put, List.setIfInBounds_toArray, List.set_cons_zero, List.set_cons_succ]; done)) (h.third.snd.add ((Below.refl _ _).alloc (Nat.le_refl _) _) (B8.of (row_lit W [c] #[.int .u8 bn] 1 HCL.out rfl (by decide))) (fun k hk => Nat.le_of_eq (Option.some.inj hk))).third'
        | @s3 _ x105 _ _ hl ha h =>
          subst hl; subst ha
          try simp only [Act.put, List.setIfInBounds_toArray, List.set_cons_zero, List.set_cons_succ]
          refine ⟨[11, 15], by kernel_rfl, by simp, ?_⟩
          intro i hi
          simp only [List.mem_cons, List.not_mem_nil, or_false] at hi
          rcases hi with rfl | rfl
          · refine wpOp_step rfl (fun K' hK' => ?_)
            go_simp
            refine hK' _ _ ?_
            exact LI.s6 (x97 := (.slice (some ⟨W.heap.size, 0, none⟩) 1 1)) (x105 := x105) (by kernel_rfl) (by first | with_reducible rfl | (simp only [Act.put, List.setIfInBounds_toArray, List.set_cons_zero, List.set_cons_succ]; done) | (simp only [List.getElem_toArray, List.getElem_cons_zero, List.getElem_cons_succ, Act.put, List.setIfInBounds_toArray, List.set_cons_zero, List.set_cons_succ]; done)) (h.snd.add ((Below.refl _ _).alloc (Nat.le_refl _) _) (B8.of (row_lit W [c] #[.int .u8 bn] 1 HCL.out rfl (by decide))) (fun k hk => Nat.le_of_eq (Option.some.inj hk)))
          · refine wpOp_step rfl (fun K' hK' => ?_)
            go_simp
            refine hK' _ _ ?_
            exact LI.s7 (x101 := (.slice (some ⟨W.heap.size, 0, none⟩) 0 0)) (x105 := x105) (by kernel_rfl) (by first | with_reducible rfl | (simp only [Act.put, List.setIfInBounds_toArray, List.set_cons_zero, List.set_cons_succ]; done) | (simp only [List.getElem_toArray, List.getElem_cons_zero, List.getElem_cons_succ, Act.put, List.setIfInBounds_toArray, List.set_cons_zero, List.set_cons_succ]; done)) (h.swap.snd.add ((Below.refl _ _).alloc (Nat.le_refl _) _) (B8.of (row_none W)) (fun k hk => Nat.le_of_eq (Option.some.inj hk))).swap
        | @s4 _ x97 x99 _ _ hl ha h =>
          subst hl; subst ha
          try simp only [Act.put, List.setIfInBounds_toArray, List.set_cons_zero, List.set_cons_succ]
          refine ⟨[14, 15, 19], by kernel_rfl, by simp, ?_⟩
          intro i hi
          simp only [List.mem_cons, List.not_mem_nil, or_false] at hi
          rcases hi with rfl | rfl | rfl
          · obtain ⟨A9, cap9, e9, hc9, hn9, hl9⟩ := h.lie
            obtain ⟨m9, hm9⟩ : ∃ m, ([c] ++ t).length = m := ⟨_, rfl⟩
            rw [hm9] at e9 hc9
            subst e9
            have cv := conv8 (P := Try.prog) (src := 26) (dst := 9) (cap := cap9) Try.underlying26 Try.underlying5 Try.underlying9 hm9 (fun h0 => by have := hn9 h0; omega) hl9
            rw [← HS1.out] at cv
            refine wpOp_step rfl (fun K' hK' => ?_)
            go_simp
            refine hK' _ _ ?_
            exact LI.s8 (x97 := x97) (x99 := (.slice A9 m9 cap9)) (by kernel_rfl) (by first | with_reducible rfl | (simp only [Act.put, List.setIfInBounds_toArray, List.set_cons_zero, List.set_cons_succ]; done) | (simp only [List.getElem_toArray, List.getElem_cons_zero, List.getElem_cons_succ, Act.put, List.setIfInBounds_toArray, List.set_cons_zero, List.set_cons_succ]; done)) h
          · refine wpOp_step rfl (fun K' hK' => ?_)
            go_simp
            refine hK' _ _ ?_
            exact LI.s9 (x97 := x97) (x99 := x99) (x101 := (.slice (some ⟨W.heap.size, 0, none⟩) 0 0)) (by kernel_rfl) (by first | with_reducible rfl | (simp only [Act.put, List.setIfInBounds_toArray, List.set_cons_zero, List.set_cons_succ]; done) | (simp only [List.getElem_toArray, List.getElem_cons_zero, List.getElem_cons_succ, Act.put, List.setIfInBounds_toArray, List.set_cons_zero, List.set_cons_succ]; done)) (h.swap.snd.add ((Below.refl _ _).alloc (Nat.le_refl _) _) (B8.of (row_none W)) (fun k hk => Nat.le_of_eq (Option.some.inj hk))).swap
          · refine wpOp_step rfl (fun K' hK' => ?_)
            go_simp
            refine hK' _ _ ?_
            exact LI.s10 (x97 := x97) (x99 := x99) (x105 := (.slice (some ⟨W.heap.size, 0, none⟩) 1 1)) (by kernel_rfl) (by first | with_reducible rfl | (simp only [Act.put, List.setIfInBounds_toArray, List.set_cons_zero, List.set_cons_succ]; done) | (simp only [List.getElem_toArray, List.getElem_cons_zero, List.getElem_cons_succ, Act.put, List.setIfInBounds_toArray, List.set_cons_zero, List.set_cons_succ]; done)) (h.third.snd.add ((Below.refl _ _).alloc (Nat.le_refl _) _) (B8.of (row_lit W [c] #[.int .u8 bn] 1 HCL.out rfl (by decide))) (fun k hk => Nat.le_of_eq (Option.some.inj hk))).third'
        | @s5 _ x97 x101 _ _ hl ha h =>
          subst hl; subst ha
          try simp only [Act.put, List.setIfInBounds_toArray, List.set_cons_zero, List.set_cons_succ]
          refine ⟨[13, 19], by kernel_rfl, by simp, ?_⟩
          intro i hi
          simp only [List.mem_cons, List.not_mem_nil, or_false] at hi
          rcases hi with rfl | rfl
          · refine wpOp_step rfl (fun K' hK' => ?_)
            refine step_append8 true (by rfl) rfl (.tmp 97) (.tmp 98) rfl 0 x97 [c].length [c] (by rfl) h.b8 A n cap t (by rfl) HN.out hnc HA.out (HL.out.below h.below) (by simp; omega) (Nat.zero_le _) ?_
            intro v' W' hown hg hfr
            refine hK' _ _ ?_
            exact LI.s9 (x97 := x97) (x99 := v') (x101 := x101) (by kernel_rfl) (by first | with_reducible rfl | (simp only [Act.put, List.setIfInBounds_toArray, List.set_cons_zero, List.set_cons_succ]; done) | (simp only [List.getElem_toArray, List.getElem_cons_zero, List.getElem_cons_succ, Act.put, List.setIfInBounds_toArray, List.set_cons_zero, List.set_cons_succ]; done)) (h.append8 (by rw [List.length_append, HN.out]) hown hg hfr)
          · refine wpOp_step rfl (fun K' hK' => ?_)
            go_simp
            refine hK' _ _ ?_
            exact LI.s11 (x97 := x97) (x101 := x101) (x105 := (.slice (some ⟨W.heap.size, 0, none⟩) 1 1)) (by kernel_rfl) (by first | with_reducible rfl | (simp only [Act.put, List.setIfInBounds_toArray, List.set_cons_zero, List.set_cons_succ]; done) | (simp only [List.getElem_toArray, List.getElem_cons_zero, List.getElem_cons_succ, Act.put, List.setIfInBounds_toArray, List.set_cons_zero, List.set_cons_succ]; done)) (h.third.snd.add ((Below.refl _ _).alloc (Nat.le_refl _) _) (B8.of (row_lit W [c] #[.int .u8 bn] 1 HCL.out rfl (by decide))) (fun k hk => Nat.le_of_eq (Option.some.inj hk))).third'
        | @s6 _ x97 x105 _ _ hl ha h =>
          subst hl; subst ha
          try simp only [Act.put, List.setIfInBounds_toArray, List.set_cons_zero, List.set_cons_succ]
          refine ⟨[13, 15], by kernel_rfl, by simp, ?_⟩
          intro i hi
          simp only [List.mem_cons, List.not_mem_nil, or_false] at hi
          rcases hi with rfl | rfl
          · refine wpOp_step rfl (fun K' hK' => ?_)
            refine step_append8 true (by rfl) rfl (.tmp 97) (.tmp 98) rfl 0 x97 [c].length [c] (by rfl) h.b8 A n cap t (by rfl) HN.out hnc HA.out (HL.out.below h.below) (by simp; omega) (Nat.zero_le _) ?_
            intro v' W' hown hg hfr
            refine hK' _ _ ?_
            exact LI.s10 (x97 := x97) (x99 := v') (x105 := x105) (by kernel_rfl) (by first | with_reducible rfl | (simp only [Act.put, List.setIfInBounds_toArray, List.set_cons_zero, List.set_cons_succ]; done) | (simp only [List.getElem_toArray, List.getElem_cons_zero, List.getElem_cons_succ, Act.put, List.setIfInBounds_toArray, List.set_cons_zero, List.set_cons_succ]; done)) (h.append8 (by rw [List.length_append, HN.out]) hown hg hfr)
          · refine wpOp_step rfl (fun K' hK' => ?_)
            go_simp
            refine hK' _ _ ?_
            exact LI.s11 (x97 := x97) (x101 := (.slice (some ⟨W.heap.size, 0, none⟩) 0 0)) (x105 := x105) (by kernel_rfl) (by first | with_reducible rfl | (simp only [Act.put, List.setIfInBounds_toArray, List.set_cons_zero, List.set_cons_succ]; done) | (simp only [List.getElem_toArray, List.getElem_cons_zero, List.getElem_cons_succ, Act.put, List.setIfInBounds_toArray, List.set_cons_zero, List.set_cons_succ]; done)) (h.swap.snd.add ((Below.refl _ _).alloc (Nat.le_refl _) _) (B8.of (row_none W)) (fun k hk => Nat.le_of_eq (Option.some.inj hk))).swap
        | @s7 _ x101 x105 _ _ hl ha h =>
          subst hl; subst ha
          try simp only [Act.put, List.setIfInBounds_toArray, List.set_cons_zero, List.set_cons_succ]
          refine ⟨[11], by kernel_rfl, by simp, ?_⟩
          intro i hi
          simp only [List.mem_cons, List.not_mem_nil, or_false] at hi
          subst hi
          refine wpOp_step rfl (fun K' hK' => ?_)
          go_simp
          refine hK' _ _ ?_
          exact LI.s11 (x97 := (.slice (some ⟨W.heap.size, 0, none⟩) 1 1)) (x101 := x101) (x105 := x105) (by kernel_rfl) (by first | with_reducible rfl | (simp only [Act.put, List.setIfInBounds_toArray, List.set_cons_zero, List.set_cons_succ]; done) | (simp only [List.getElem_toArray, List.getElem_cons_zero, List.getElem_cons_succ, Act.put, List.setIfInBounds_toArray, List.set_cons_zero, List.set_cons_succ]; done)) (h.snd.add ((Below.refl _ _).alloc (Nat.le_refl _) _) (B8.of (row_lit W [c] #[.int .u8 bn] 1 HCL.out rfl (by decide))) (fun k hk => Nat.le_of_eq (Option.some.inj hk)))
        | @s8 _ x97 x99 _ _ hl ha h =>
          subst hl; subst ha
          try simp only [Act.put, List.setIfInBounds_toArray, List.set_cons_zero, List.set_cons_succ]
          refine ⟨[15, 19], by kernel_rfl, by simp, ?_⟩
          intro i hi
          simp only [List.mem_cons, List.not_mem_nil, or_false] at hi
          rcases hi with rfl | rfl
          · refine wpOp_step rfl (fun K' hK' => ?_)
            go_simp
            refine hK' _ _ ?_
            exact LI.s12 (x97 := x97) (x99 := x99) (x101 := (.slice (some ⟨W.heap.size, 0, none⟩) 0 0)) (by kernel_rfl) (by first | with_reducible rfl | (simp only [Act.put, List.setIfInBounds_toArray, List.set_cons_zero, List.set_cons_succ]; done) | (simp only [List.getElem_toArray, List.getElem_cons_zero, List.getElem_cons_succ, Act.put, List.setIfInBounds_toArray, List.set_cons_zero, List.set_cons_succ]; done)) (h.swap.snd.add ((Below.refl _ _).alloc (Nat.le_refl _) _) (B8.of (row_none W)) (fun k hk => Nat.le_of_eq (Option.some.inj hk))).swap
          · refine wpOp_step rfl (fun K' hK' => ?_)
            go_simp
            refine hK' _ _ ?_
            exact LI.s13 (x97 := x97) (x99 := x99) (x105 := (.slice (some ⟨W.heap.size, 0, none⟩) 1 1)) (by kernel_rfl) (by first | with_reducible rfl | (simp only [Act.put, List.setIfInBounds_toArray, List.set_cons_zero, List.set_cons_succ]; done) | (simp only [List.getElem_toArray, List.getElem_cons_zero, List.getElem_cons_succ, Act.put, List.setIfInBounds_toArray, List.set_cons_zero, List.set_cons_succ]; done)) (h.third.snd.add ((Below.refl _ _).alloc (Nat.le_refl _) _) (B8.of (row_lit W [c] #[.int .u8 bn] 1 HCL.out rfl (by decide))) (fun k hk => Nat.le_of_eq (Option.some.inj hk))).third'
        | @s9 _ x97 x99 x101 _ _ hl ha h =>
          subst hl; subst ha
          try simp only [Act.put, List.setIfInBounds_toArray, List.set_cons_zero, List.set_cons_succ]
          refine ⟨[14, 17, 19], by kernel_rfl, by simp, ?_⟩
          intro i hi
          simp only [List.mem_cons, List.not_mem_nil, or_false] at hi
          rcases hi with rfl | rfl | rfl
          · obtain ⟨A9, cap9, e9, hc9, hn9, hl9⟩ := h.lie
            obtain ⟨m9, hm9⟩ : ∃ m, ([c] ++ t).length = m := ⟨_, rfl⟩
            rw [hm9] at e9 hc9
            subst e9
            have cv := conv8 (P := Try.prog) (src := 26) (dst := 9) (cap := cap9) Try.underlying26 Try.underlying5 Try.underlying9 hm9 (fun h0 => by have := hn9 h0; omega) hl9
            rw [← HS1.out] at cv
            refine wpOp_step rfl (fun K' hK' => ?_)
            go_simp
            refine hK' _ _ ?_
            exact LI.s12 (x97 := x97) (x99 := (.slice A9 m9 cap9)) (x101 := x101) (by kernel_rfl) (by first | with_reducible rfl | (simp only [Act.put, List.setIfInBounds_toArray, List.set_cons_zero, List.set_cons_succ]; done) | (simp only [List.getElem_toArray, List.getElem_cons_zero, List.getElem_cons_succ, Act.put, List.setIfInBounds_toArray, List.set_cons_zero, List.set_cons_succ]; done)) h
          · refine wpOp_step rfl (fun K' hK' => ?_)
            refine step_append8 true (by rfl) rfl (.tmp 101) (.tmp 102) rfl 0 x101 ([] : List UInt8).length [] (by rfl) h.swap.b8 A n cap t (by rfl) HN.out hnc HA.out (HL.out.below h.below) (by simp; omega) (Nat.zero_le _) ?_
            intro v' W' hown hg hfr
            refine hK' _ _ ?_
            exact LI.s14 (x97 := x97) (x99 := x99) (x101 := x101) (x103 := v') (by kernel_rfl) (by first | with_reducible rfl | (simp only [Act.put, List.setIfInBounds_toArray, List.set_cons_zero, List.set_cons_succ]; done) | (simp only [List.getElem_toArray, List.getElem_cons_zero, List.getElem_cons_succ, Act.put, List.setIfInBounds_toArray, List.set_cons_zero, List.set_cons_succ]; done)) (h.swap.append8 (by rw [List.length_append, HN.out]) hown hg hfr).swap
          · refine wpOp_step rfl (fun K' hK' => ?_)
            go_simp
            refine hK' _ _ ?_
            exact LI.s15 (x97 := x97) (x99 := x99) (x101 := x101) (x105 := (.slice (some ⟨W.heap.size, 0, none⟩) 1 1)) (by kernel_rfl) (by first | with_reducible rfl | (simp only [Act.put, List.setIfInBounds_toArray, List.set_cons_zero, List.set_cons_succ]; done) | (simp only [List.getElem_toArray, List.getElem_cons_zero, List.getElem_cons_succ, Act.put, List.setIfInBounds_toArray, List.set_cons_zero, List.set_cons_succ]; done)) (h.third.snd.add ((Below.refl _ _).alloc (Nat.le_refl _) _) (B8.of (row_lit W [c] #[.int .u8 bn] 1 HCL.out rfl (by decide))) (fun k hk => Nat.le_of_eq (Option.some.inj hk))).third'
        | @s10 _ x97 x99 x105 _ _ hl ha h =>
          subst hl; subst ha
          try simp only [Act.put, List.setIfInBounds_toArray, List.set_cons_zero, List.set_cons_succ]
          refine ⟨[14, 15], by kernel_rfl, by simp, ?_⟩
          intro i hi
          simp only [List.mem_cons, List.not_mem_nil, or_false] at hi
          rcases hi with rfl | rfl
          · obtain ⟨A9, cap9, e9, hc9, hn9, hl9⟩ := h.lie
            obtain ⟨m9, hm9⟩ : ∃ m, ([c] ++ t).length = m := ⟨_, rfl⟩
            rw [hm9] at e9 hc9
            subst e9
            have cv := conv8 (P := Try.prog) (src := 26) (dst := 9) (cap := cap9) Try.underlying26 Try.underlying5 Try.underlying9 hm9 (fun h0 => by have := hn9 h0; omega) hl9
            rw [← HS1.out] at cv
            refine wpOp_step rfl (fun K' hK' => ?_)
            go_simp
            refine hK' _ _ ?_
            exact LI.s13 (x97 := x97) (x99 := (.slice A9 m9 cap9)) (x105 := x105) (by kernel_rfl) (by first | with_reducible rfl | (simp only [Act.put, List.setIfInBounds_toArray, List.set_cons_zero, List.set_cons_succ]; done) | (simp only [List.getElem_toArray, List.getElem_cons_zero, List.getElem_cons_succ, Act.put, List.setIfInBounds_toArray, List.set_cons_zero, List.set_cons_succ]; done)) h
          · refine wpOp_step rfl (fun K' hK' => ?_)
            go_simp
            refine hK' _ _ ?_
            exact LI.s15 (x97 := x97) (x99 := x99) (x101 := (.slice (some ⟨W.heap.size, 0, none⟩) 0 0)) (x105 := x105) (by kernel_rfl) (by first | with_reducible rfl | (simp only [Act.put, List.setIfInBounds_toArray, List.set_cons_zero, List.set_cons_succ]; done) | (simp only [List.getElem_toArray, List.getElem_cons_zero, List.getElem_cons_succ, Act.put, List.setIfInBounds_toArray, List.set_cons_zero, List.set_cons_succ]; done)) (h.swap.snd.add ((Below.refl _ _).alloc (Nat.le_refl _) _) (B8.of (row_none W)) (fun k hk => Nat.le_of_eq (Option.some.inj hk))).swap
        | @s11 _ x97 x101 x105 _ _ hl ha h =>
          subst hl; subst ha
          try simp only [Act.put, List.setIfInBounds_toArray, List.set_cons_zero, List.set_cons_succ]
          refine ⟨[13], by kernel_rfl, by simp, ?_⟩
          intro i hi
          simp only [List.mem_cons, List.not_mem_nil, or_false] at hi
          subst hi
          refine wpOp_step rfl (fun K' hK' => ?_)
          refine step_append8 true (by rfl) rfl (.tmp 97) (.tmp 98) rfl 0 x97 [c].length [c] (by rfl) h.b8 A n cap t (by rfl) HN.out hnc HA.out (HL.out.below h.below) (by simp; omega) (Nat.zero_le _) ?_
          intro v' W' hown hg hfr
          refine hK' _ _ ?_
          exact LI.s15 (x97 := x97) (x99 := v') (x101 := x101) (x105 := x105) (by kernel_rfl) (by first | with_reducible rfl | (simp only [Act.put, List.setIfInBounds_toArray, List.set_cons_zero, List.set_cons_succ]; done) | (simp only [List.getElem_toArray, List.getElem_cons_zero, List.getElem_cons_succ, Act.put, List.setIfInBounds_toArray, List.set_cons_zero, List.set_cons_succ]; done)) (h.append8 (by rw [List.length_append, HN.out]) hown hg hfr)
        | @s12 _ x97 x99 x101 _ _ hl ha h =>
          subst hl; subst ha
          try simp only [Act.put, List.setIfInBounds_toArray, List.set_cons_zero, List.set_cons_succ]
          refine ⟨[17, 19], by kernel_rfl, by simp, ?_⟩
          intro i hi
          simp only [List.mem_cons, List.not_mem_nil, or_false] at hi
          rcases hi with rfl | rfl
          · refine wpOp_step rfl (fun K' hK' => ?_)
            refine step_append8 true (by rfl) rfl (.tmp 101) (.tmp 102) rfl 0 x101 ([] : List UInt8).length [] (by rfl) h.swap.b8 A n cap t (by rfl) HN.out hnc HA.out (HL.out.below h.below) (by simp; omega) (Nat.zero_le _) ?_
            intro v' W' hown hg hfr
            refine hK' _ _ ?_
            exact LI.s16 (x97 := x97) (x99 := x99) (x101 := x101) (x103 := v') (by kernel_rfl) (by first | with_reducible rfl | (simp only [Act.put, List.setIfInBounds_toArray, List.set_cons_zero, List.set_cons_succ]; done) | (simp only [List.getElem_toArray, List.getElem_cons_zero, List.getElem_cons_succ, Act.put, List.setIfInBounds_toArray, List.set_cons_zero, List.set_cons_succ]; done)) (h.swap.append8 (by rw [List.length_append, HN.out]) hown hg hfr).swap
          · refine wpOp_step rfl (fun K' hK' => ?_)
            go_simp
            refine hK' _ _ ?_
            exact LI.s17 (x97 := x97) (x99 := x99) (x101 := x101) (x105 := (.slice (some ⟨W.heap.size, 0, none⟩) 1 1)) (by kernel_rfl) (by first | with_reducible rfl | (simp only [Act.put, List.setIfInBounds_toArray, List.set_cons_zero, List.set_cons_succ]; done) | (simp only [List.getElem_toArray, List.getElem_cons_zero, List.getElem_cons_succ, Act.put, List.setIfInBounds_toArray, List.set_cons_zero, List.set_cons_succ]; done)) (h.third.snd.add ((Below.refl _ _).alloc (Nat.le_refl _) _) (B8.of (row_lit W [c] #[.int .u8 bn] 1 HCL.out rfl (by decide))) (fun k hk => Nat.le_of_eq (Option.some.inj hk))).third'
        | @s13 _ x97 x99 x105 _ _ hl ha h =>
          subst hl; subst ha
          try simp only [Act.put, List.setIfInBounds_toArray, List.set_cons_zero, List.set_cons_succ]
          refine ⟨[15], by kernel_rfl, by simp, ?_⟩
          intro i hi
          simp only [List.mem_cons, List.not_mem_nil, or_false] at hi
          subst hi
          refine wpOp_step rfl (fun K' hK' => ?_)
          go_simp
          refine hK' _ _ ?_
          exact LI.s17 (x97 := x97) (x99 := x99) (x101 := (.slice (some ⟨W.heap.size, 0, none⟩) 0 0)) (x105 := x105) (by kernel_rfl) (by first | with_reducible rfl | (simp only [Act.put, List.setIfInBounds_toArray, List.set_cons_zero, List.set_cons_succ]; done) | (simp only [List.getElem_toArray, List.getElem_cons_zero, List.getElem_cons_succ, Act.put, List.setIfInBounds_toArray, List.set_cons_zero, List.set_cons_succ]; done)) (h.swap.snd.add ((Below.refl _ _).alloc (Nat.le_refl _) _) (B8.of (row_none W)) (fun k hk => Nat.le_of_eq (Option.some.inj hk))).swap
        | @s14 _ x97 x99 x101 x103 _ _ hl ha h =>
          subst hl; subst ha
          try simp only [Act.put, List.setIfInBounds_toArray, List.set_cons_zero, List.set_cons_succ]
          refine ⟨[14, 19], by kernel_rfl, by simp, ?_⟩
          intro i hi
          simp only [List.mem_cons, List.not_mem_nil, or_false] at hi
          rcases hi with rfl | rfl
          · obtain ⟨A9, cap9, e9, hc9, hn9, hl9⟩ := h.lie
            obtain ⟨m9, hm9⟩ : ∃ m, ([c] ++ t).length = m := ⟨_, rfl⟩
            rw [hm9] at e9 hc9
            subst e9
            have cv := conv8 (P := Try.prog) (src := 26) (dst := 9) (cap := cap9) Try.underlying26 Try.underlying5 Try.underlying9 hm9 (fun h0 => by have := hn9 h0; omega) hl9
            rw [← HS1.out] at cv
            refine wpOp_step rfl (fun K' hK' => ?_)
            go_simp
            refine hK' _ _ ?_
            exact LI.s16 (x97 := x97) (x99 := (.slice A9 m9 cap9)) (x101 := x101) (x103 := x103) (by kernel_rfl) (by first | with_reducible rfl | (simp only [Act.put, List.setIfInBounds_toArray, List.set_cons_zero, List.set_cons_succ]; done) | (simp only [List.getElem_toArray, List.getElem_cons_zero, List.getElem_cons_succ, Act.put, List.setIfInBounds_toArray, List.set_cons_zero, List.set_cons_succ]; done)) h
          · refine wpOp_step rfl (fun K' hK' => ?_)
            go_simp
            refine hK' _ _ ?_
            exact LI.s18 (x97 := x97) (x99 := x99) (x101 := x101) (x103 := x103) (x105 := (.slice (some ⟨W.heap.size, 0, none⟩) 1 1)) (by kernel_rfl) (by first | with_reducible rfl | (simp only [Act.put, List.setIfInBounds_toArray, List.set_cons_zero, List.set_cons_succ]; done) | (simp only [List.getElem_toArray, List.getElem_cons_zero, List.getElem_cons_succ, Act.put, List.setIfInBounds_toArray, List.set_cons_zero, List.set_cons_succ]; done)) (h.third.snd.add ((Below.refl _ _).alloc (Nat.le_refl _) _) (B8.of (row_lit W [c] #[.int .u8 bn] 1 HCL.out rfl (by decide))) (fun k hk => Nat.le_of_eq (Option.some.inj hk))).third'
        | @s15 _ x97 x99 x101 x105 _ _ hl ha h =>
          subst hl; subst ha
          try simp only [Act.put, List.setIfInBounds_toArray, List.set_cons_zero, List.set_cons_succ]
          refine ⟨[14, 17], by kernel_rfl, by simp, ?_⟩
          intro i hi
          simp only [List.mem_cons, List.not_mem_nil, or_false] at hi
          rcases hi with rfl | rfl
          · obtain ⟨A9, cap9, e9, hc9, hn9, hl9⟩ := h.lie
            obtain ⟨m9, hm9⟩ : ∃ m, ([c] ++ t).length = m := ⟨_, rfl⟩
            rw [hm9] at e9 hc9
            subst e9
            have cv := conv8 (P := Try.prog) (src := 26) (dst := 9) (cap := cap9) Try.underlying26 Try.underlying5 Try.underlying9 hm9 (fun h0 => by have := hn9 h0; omega) hl9
            rw [← HS1.out] at cv
            refine wpOp_step rfl (fun K' hK' => ?_)
            go_simp
            refine hK' _ _ ?_
            exact LI.s17 (x97 := x97) (x99 := (.slice A9 m9 cap9)) (x101 := x101) (x105 := x105) (by kernel_rfl) (by first | with_reducible rfl | (simp only [Act.put, List.setIfInBounds_toArray, List.set_cons_zero, List.set_cons_succ]; done) | (simp only [List.getElem_toArray, List.getElem_cons_zero, List.getElem_cons_succ, Act.put, List.setIfInBounds_toArray, List.set_cons_zero, List.set_cons_succ]; done)) h
          · refine wpOp_step rfl (fun K' hK' => ?_)
            refine step_append8 true (by rfl) rfl (.tmp 101) (.tmp 102) rfl 0 x101 ([] : List UInt8).length [] (by rfl) h.swap.b8 A n cap t (by rfl) HN.out hnc HA.out (HL.out.below h.below) (by simp; omega) (Nat.zero_le _) ?_
            intro v' W' hown hg hfr
            refine hK' _ _ ?_
            exact LI.s18 (x97 := x97) (x99 := x99) (x101 := x101) (x103 := v') (x105 := x105) (by kernel_rfl) (by first | with_reducible rfl | (simp only [Act.put, List.setIfInBounds_toArray, List.set_cons_zero, List.set_cons_succ]; done) | (simp only [List.getElem_toArray, List.getElem_cons_zero, List.getElem_cons_succ, Act.put, List.setIfInBounds_toArray, List.set_cons_zero, List.set_cons_succ]; done)) (h.swap.append8 (by rw [List.length_append, HN.out]) hown hg hfr).swap
        | @s16 _ x97 x99 x101 x103 _ _ hl ha h =>
          subst hl; subst ha
          try simp only [Act.put, List.setIfInBounds_toArray, List.set_cons_zero, List.set_cons_succ]
          refine ⟨[19], by kernel_rfl, by simp, ?_⟩
          intro i hi
          simp only [List.mem_cons, List.not_mem_nil, or_false] at hi
          subst hi
          refine wpOp_step rfl (fun K' hK' => ?_)
          go_simp
          refine hK' _ _ ?_
          exact LI.s19 (x97 := x97) (x99 := x99) (x101 := x101) (x103 := x103) (x105 := (.slice (some ⟨W.heap.size, 0, none⟩) 1 1)) (by kernel_rfl) (by first | with_reducible rfl | (simp only [Act.put, List.setIfInBounds_toArray, List.set_cons_zero, List.set_cons_succ]; done) | (simp only [List.getElem_toArray, List.getElem_cons_zero, List.getElem_cons_succ, Act.put, List.setIfInBounds_toArray, List.set_cons_zero, List.set_cons_succ]; done)) (h.third.snd.add ((Below.refl _ _).alloc (Nat.le_refl _) _) (B8.of (row_lit W [c] #[.int .u8 bn] 1 HCL.out rfl (by decide))) (fun k hk => Nat.le_of_eq (Option.some.inj hk))).third'
        | @s17 _ x97 x99 x101 x105 _ _ hl ha h =>
          subst hl; subst ha
          try simp only [Act.put, List.setIfInBounds_toArray, List.set_cons_zero, List.set_cons_succ]
          refine ⟨[17], by kernel_rfl, by simp, ?_⟩
          intro i hi
          simp only [List.mem_cons, List.not_mem_nil, or_false] at hi
          subst hi
          refine wpOp_step rfl (fun K' hK' => ?_)
          refine step_append8 true (by rfl) rfl (.tmp 101) (.tmp 102) rfl 0 x101 ([] : List UInt8).length [] (by rfl) h.swap.b8 A n cap t (by rfl) HN.out hnc HA.out (HL.out.below h.below) (by simp; omega) (Nat.zero_le _) ?_
          intro v' W' hown hg hfr
          refine hK' _ _ ?_
          exact LI.s19 (x97 := x97) (x99 := x99) (x101 := x101) (x103 := v') (x105 := x105) (by kernel_rfl) (by first | with_reducible rfl | (simp only [Act.put, List.setIfInBounds_toArray, List.set_cons_zero, List.set_cons_succ]; done) | (simp only [List.getElem_toArray, List.getElem_cons_zero, List.getElem_cons_succ, Act.put, List.setIfInBounds_toArray, List.set_cons_zero, List.set_cons_succ]; done)) (h.swap.append8 (by rw [List.length_append, HN.out]) hown hg hfr).swap
        | @s18 _ x97 x99 x101 x103 x105 _ _ hl ha h =>
          subst hl; subst ha
          try simp only [Act.put, List.setIfInBounds_toArray, List.set_cons_zero, List.set_cons_succ]
          refine ⟨[14, 20], by kernel_rfl, by simp, ?_⟩
          intro i hi
          simp only [List.mem_cons, List.not_mem_nil, or_false] at hi
          rcases hi with rfl | rfl
          · obtain ⟨A9, cap9, e9, hc9, hn9, hl9⟩ := h.lie
            obtain ⟨m9, hm9⟩ : ∃ m, ([c] ++ t).length = m := ⟨_, rfl⟩
            rw [hm9] at e9 hc9
            subst e9
            have cv := conv8 (P := Try.prog) (src := 26) (dst := 9) (cap := cap9) Try.underlying26 Try.underlying5 Try.underlying9 hm9 (fun h0 => by have := hn9 h0; omega) hl9
            rw [← HS1.out] at cv
            refine wpOp_step rfl (fun K' hK' => ?_)
            go_simp
            refine hK' _ _ ?_
            exact LI.s19 (x97 := x97) (x99 := (.slice A9 m9 cap9)) (x101 := x101) (x103 := x103) (x105 := x105) (by kernel_rfl) (by first | with_reducible rfl | (simp only [Act.put, List.setIfInBounds_toArray, List.set_cons_zero, List.set_cons_succ]; done) | (simp only [List.getElem_toArray, List.getElem_cons_zero, List.getElem_cons_succ, Act.put, List.setIfInBounds_toArray, List.set_cons_zero, List.set_cons_succ]; done)) h
          · obtain ⟨A5, cap5, e5, hc5, hn5, hl5⟩ := h.third.lie
            subst e5
            refine wpOp_step rfl (fun K' hK' => ?_)
            refine step_append8 true (by rfl) rfl (.tmp 103) (.tmp 105) rfl 0 x103 ([] ++ t).length ([] ++ t) (by rfl) h.swap.b8 A5 1 cap5 [c] (by rfl) rfl hc5 hn5 hl5 (by rw [List.length_append, HN.out]; simp; omega) (Nat.zero_le _) ?_
            intro v' W' hown hg hfr
            refine hK' _ _ ?_
            exact LI.s20 (x97 := x97) (x99 := x99) (x101 := x101) (x103 := x103) (x105 := (.slice A5 [c].length cap5)) (x106 := v') (by kernel_rfl) (by first | with_reducible rfl | (simp only [Act.put, List.setIfInBounds_toArray, List.set_cons_zero, List.set_cons_succ]; done) | (simp only [List.getElem_toArray, List.getElem_cons_zero, List.getElem_cons_succ, Act.put, List.setIfInBounds_toArray, List.set_cons_zero, List.set_cons_succ]; done)) (h.swap.append8 (by simp) hown hg hfr).swap
        | @s19 _ x97 x99 x101 x103 x105 _ _ hl ha h =>
          subst hl; subst ha
          try simp only [Act.put, List.setIfInBounds_toArray, List.set_cons_zero, List.set_cons_succ]
          refine ⟨[20], by kernel_rfl, by simp, ?_⟩
          intro i hi
          simp only [List.mem_cons, List.not_mem_nil, or_false] at hi
          subst hi
          obtain ⟨A5, cap5, e5, hc5, hn5, hl5⟩ := h.third.lie
          subst e5
          refine wpOp_step rfl (fun K' hK' => ?_)
          refine step_append8 true (by rfl) rfl (.tmp 103) (.tmp 105) rfl 0 x103 ([] ++ t).length ([] ++ t) (by rfl) h.swap.b8 A5 1 cap5 [c] (by rfl) rfl hc5 hn5 hl5 (by rw [List.length_append, HN.out]; simp; omega) (Nat.zero_le _) ?_
          intro v' W' hown hg hfr
          refine hK' _ _ ?_
          exact LI.s21 (x97 := x97) (x99 := x99) (x101 := x101) (x103 := x103) (x105 := (.slice A5 [c].length cap5)) (x106 := v') (by kernel_rfl) (by first | with_reducible rfl | (simp only [Act.put, List.setIfInBounds_toArray, List.set_cons_zero, List.set_cons_succ]; done) | (simp only [List.getElem_toArray, List.getElem_cons_zero, List.getElem_cons_succ, Act.put, List.setIfInBounds_toArray, List.set_cons_zero, List.set_cons_succ]; done)) (h.swap.append8 (by simp) hown hg hfr).swap
        | @s20 _ x97 x99 x101 x103 x105 x106 _ _ hl ha h =>
          subst hl; subst ha
          try simp only [Act.put, List.setIfInBounds_toArray, List.set_cons_zero, List.set_cons_succ]
          refine ⟨[14, 21], by kernel_rfl, by simp, ?_⟩
          intro i hi
          simp only [List.mem_cons, List.not_mem_nil, or_false] at hi
          rcases hi with rfl | rfl
          · obtain ⟨A9, cap9, e9, hc9, hn9, hl9⟩ := h.lie
            obtain ⟨m9, hm9⟩ : ∃ m, ([c] ++ t).length = m := ⟨_, rfl⟩
            rw [hm9] at e9 hc9
            subst e9
            have cv := conv8 (P := Try.prog) (src := 26) (dst := 9) (cap := cap9) Try.underlying26 Try.underlying5 Try.underlying9 hm9 (fun h0 => by have := hn9 h0; omega) hl9
            rw [← HS1.out] at cv
            refine wpOp_step rfl (fun K' hK' => ?_)
            go_simp
            refine hK' _ _ ?_
            exact LI.s21 (x97 := x97) (x99 := (.slice A9 m9 cap9)) (x101 := x101) (x103 := x103) (x105 := x105) (x106 := x106) (by kernel_rfl) (by first | with_reducible rfl | (simp only [Act.put, List.setIfInBounds_toArray, List.set_cons_zero, List.set_cons_succ]; done) | (simp only [List.getElem_toArray, List.getElem_cons_zero, List.getElem_cons_succ, Act.put, List.setIfInBounds_toArray, List.set_cons_zero, List.set_cons_succ]; done)) h
          · obtain ⟨A9, cap9, e9, hc9, hn9, hl9⟩ := h.swap.lie
            obtain ⟨m9, hm9⟩ : ∃ m, (([] ++ t) ++ [c]).length = m := ⟨_, rfl⟩
            rw [hm9] at e9 hc9
            subst e9
            have cv := conv8 (P := Try.prog) (src := 26) (dst := 9) (cap := cap9) Try.underlying26 Try.underlying5 Try.underlying9 hm9 (fun h0 => by have := hn9 h0; omega) hl9
            rw [← HS2.out] at cv
            refine wpOp_step rfl (fun K' hK' => ?_)
            go_simp
            refine hK' _ _ ?_
            exact LI.s22 (x97 := x97) (x99 := x99) (x101 := x101) (x103 := x103) (x105 := x105) (x106 := (.slice A9 m9 cap9)) (by kernel_rfl) (by first | with_reducible rfl | (simp only [Act.put, List.setIfInBounds_toArray, List.set_cons_zero, List.set_cons_succ]; done) | (simp only [List.getElem_toArray, List.getElem_cons_zero, List.getElem_cons_succ, Act.put, List.setIfInBounds_toArray, List.set_cons_zero, List.set_cons_succ]; done)) h
        | @s21 _ x97 x99 x101 x103 x105 x106 _ _ hl ha h =>
          subst hl; subst ha
          try simp only [Act.put, List.setIfInBounds_toArray, List.set_cons_zero, List.set_cons_succ]
          refine ⟨[21], by kernel_rfl, by simp, ?_⟩
          intro i hi
          simp only [List.mem_cons, List.not_mem_nil, or_false] at hi
          subst hi
          obtain ⟨A9, cap9, e9, hc9, hn9, hl9⟩ := h.swap.lie
          obtain ⟨m9, hm9⟩ : ∃ m, (([] ++ t) ++ [c]).length = m := ⟨_, rfl⟩
          rw [hm9] at e9 hc9
          subst e9
          have cv := conv8 (P := Try.prog) (src := 26) (dst := 9) (cap := cap9) Try.underlying26 Try.underlying5 Try.underlying9 hm9 (fun h0 => by have := hn9 h0; omega) hl9
          rw [← HS2.out] at cv
          refine wpOp_step rfl (fun K' hK' => ?_)
          go_simp
          refine hK' _ _ ?_
          exact LI.s23 (x97 := x97) (x99 := x99) (x101 := x101) (x103 := x103) (x105 := x105) (x106 := (.slice A9 m9 cap9)) (by kernel_rfl) (by first | with_reducible rfl | (simp only [Act.put, List.setIfInBounds_toArray, List.set_cons_zero, List.set_cons_succ]; done) | (simp only [List.getElem_toArray, List.getElem_cons_zero, List.getElem_cons_succ, Act.put, List.setIfInBounds_toArray, List.set_cons_zero, List.set_cons_succ]; done)) h
        | @s22 _ x97 x99 x101 x103 x105 x106 _ _ hl ha h =>
          subst hl; subst ha
          try simp only [Act.put, List.setIfInBounds_toArray, List.set_cons_zero, List.set_cons_succ]
          refine ⟨[14], by kernel_rfl, by simp, ?_⟩
          intro i hi
          simp only [List.mem_cons, List.not_mem_nil, or_false] at hi
          subst hi
          obtain ⟨A9, cap9, e9, hc9, hn9, hl9⟩ := h.lie
          obtain ⟨m9, hm9⟩ : ∃ m, ([c] ++ t).length = m := ⟨_, rfl⟩
          rw [hm9] at e9 hc9
          subst e9
          have cv := conv8 (P := Try.prog) (src := 26) (dst := 9) (cap := cap9) Try.underlying26 Try.underlying5 Try.underlying9 hm9 (fun h0 => by have := hn9 h0; omega) hl9
          rw [← HS1.out] at cv
          refine wpOp_step rfl (fun K' hK' => ?_)
          go_simp
          refine hK' _ _ ?_
          exact LI.s23 (x97 := x97) (x99 := (.slice A9 m9 cap9)) (x101 := x101) (x103 := x103) (x105 := x105) (x106 := x106) (by kernel_rfl) (by first | with_reducible rfl | (simp only [Act.put, List.setIfInBounds_toArray, List.set_cons_zero, List.set_cons_succ]; done) | (simp only [List.getElem_toArray, List.getElem_cons_zero, List.getElem_cons_succ, Act.put, List.setIfInBounds_toArray, List.set_cons_zero, List.set_cons_succ]; done)) h
      · intro listed a W h
        cases h with
        | @s23 _ x97 x99 x101 x103 x105 x106 _ _ hl ha h =>
          subst hl; subst ha
          obtain ⟨qb, hqb⟩ : ∃ q, decide (c :: t = t ++ [c]) = q := ⟨_, rfl⟩
          have e1 : (f3 == 2) = qb := by rw [HF3.out, hqb]
          have e2 : (s1.toList == s2.toList) = qb := by rw [str_eq HS1.out HS2.out]; exact hqb
          have hX := h.snd.snd.snd
          have HX := Lib.hid hX
          clear h hX hqb
          conv => arg 7; simp only [List.getElem_toArray, List.getElem_cons_zero, List.getElem_cons_succ, Act.put, List.setIfInBounds_toArray, List.set_cons_zero, List.set_cons_succ]
          refine wpAny_take (i := 22) (v := ?_) rfl (by kernel_rfl) (by kernel_rfl) (by kernel_rfl) (fun _ _ _ h => h) (Or.inl ⟨by rfl, ?_⟩) ?_
          rotate_left
          · (intro w; go_simp; try with_reducible rfl)
          conv => arg 7; simp only [List.getElem_toArray, List.getElem_cons_zero, List.getElem_cons_succ, Act.put, List.setIfInBounds_toArray, List.set_cons_zero, List.set_cons_succ]
          refine wpAny_take (i := 23) (v := ?_) rfl (by kernel_rfl) (by kernel_rfl) (by kernel_rfl) (fun _ _ _ h => h) (Or.inl ⟨by rfl, ?_⟩) ?_
          rotate_left
          · (intro w; go_simp; try with_reducible rfl)
          conv => arg 7; simp only [List.getElem_toArray, List.getElem_cons_zero, List.getElem_cons_succ, Act.put, List.setIfInBounds_toArray, List.set_cons_zero, List.set_cons_succ]
          refine wpAny_take (i := 24) (v := ?_) rfl (by kernel_rfl) (by kernel_rfl) (by kernel_rfl) (fun _ _ _ h => h) (Or.inl ⟨by rfl, ?_⟩) ?_
          rotate_left
          · (intro w; go_simp; try with_reducible rfl)
          conv => arg 7; simp only [List.getElem_toArray, List.getElem_cons_zero, List.getElem_cons_succ, Act.put, List.setIfInBounds_toArray, List.set_cons_zero, List.set_cons_succ]
          refine wpAny_take (i := 25) (v := ?_) rfl (by kernel_rfl) (by kernel_rfl) (by kernel_rfl) (fun _ _ _ h => h) (Or.inl ⟨by rfl, ?_⟩) ?_
          rotate_left
          · (intro w; go_simp; try with_reducible rfl)
          conv => arg 7; simp only [List.getElem_toArray, List.getElem_cons_zero, List.getElem_cons_succ, Act.put, List.setIfInBounds_toArray, List.set_cons_zero, List.set_cons_succ]
          refine wpAny_take (i := 26) (v := ?_) rfl (by kernel_rfl) (by kernel_rfl) (by kernel_rfl) (fun _ _ _ h => h) (Or.inl ⟨by rfl, ?_⟩) ?_
          rotate_left
          · (intro w; go_simp; try with_reducible rfl)
          conv => arg 7; simp only [List.getElem_toArray, List.getElem_cons_zero, List.getElem_cons_succ, Act.put, List.setIfInBounds_toArray, List.set_cons_zero, List.set_cons_succ]
          refine wpAny_take (i := 27) (v := ?_) rfl (by kernel_rfl) (by kernel_rfl) (by kernel_rfl) (fun _ _ _ h => h) (Or.inl ⟨by rfl, ?_⟩) ?_
          rotate_left
          · (intro w; go_simp; try with_reducible rfl)
          conv => arg 7; simp only [List.getElem_toArray, List.getElem_cons_zero, List.getElem_cons_succ, Act.put, List.setIfInBounds_toArray, List.set_cons_zero, List.set_cons_succ]
          by_cases hc : c = 0
          · have e3 : (g == 1) = true := by rw [HGB.out, hc]; simp
            have e4 : (bn == 0) = true := by rw [← HBN.out, hc]; rfl
            clear hc
            refine wpAny_take (i := 28) (v := ?_) rfl (by kernel_rfl) (by kernel_rfl) (by kernel_rfl) (fun _ _ _ h => h) (Or.inl ⟨by rfl, ?_⟩) ?_
            rotate_left
            · (intro w; go_simp; try with_reducible rfl)
            conv => arg 7; simp only [List.getElem_toArray, List.getElem_cons_zero, List.getElem_cons_succ, Act.put, List.setIfInBounds_toArray, List.set_cons_zero, List.set_cons_succ]
            refine wpAny_take (i := 29) (v := ?_) rfl (by kernel_rfl) (by kernel_rfl) (by kernel_rfl) (fun _ _ _ h => h) (Or.inl ⟨by rfl, ?_⟩) ?_
            rotate_left
            · (intro w; go_simp; try with_reducible rfl)
            conv => arg 7; simp only [List.getElem_toArray, List.getElem_cons_zero, List.getElem_cons_succ, Act.put, List.setIfInBounds_toArray, List.set_cons_zero, List.set_cons_succ]
            refine wpAny_take (i := 30) (v := ?_) rfl (by kernel_rfl) (by kernel_rfl) (by kernel_rfl) (fun _ _ _ h => h) (Or.inl ⟨by rfl, ?_⟩) ?_
            rotate_left
            · (intro w; go_simp; try with_reducible rfl)
            conv => arg 7; simp only [List.getElem_toArray, List.getElem_cons_zero, List.getElem_cons_succ, Act.put, List.setIfInBounds_toArray, List.set_cons_zero, List.set_cons_succ]
            refine wpAny_take (i := 31) (v := ?_) rfl (by kernel_rfl) (by kernel_rfl) (by kernel_rfl) (fun _ _ _ h => h) (Or.inl ⟨by rfl, ?_⟩) ?_
            rotate_left
            · (intro w; go_simp; try with_reducible rfl)
            conv => arg 7; simp only [List.getElem_toArray, List.getElem_cons_zero, List.getElem_cons_succ, Act.put, List.setIfInBounds_toArray, List.set_cons_zero, List.set_cons_succ]
            refine wpAny_take (i := 32) (v := undef) rfl (by kernel_rfl) (by kernel_rfl) (by kernel_rfl) (fun _ _ _ h => h) (Or.inr ⟨by rfl, rfl⟩) ?_
            conv => arg 7; simp only [List.getElem_toArray, List.getElem_cons_zero, List.getElem_cons_succ, Act.put, List.setIfInBounds_toArray, List.set_cons_zero, List.set_cons_succ]
            refine wpAny_take (i := 33) (v := undef) rfl (by kernel_rfl) (by kernel_rfl) (by kernel_rfl) (fun _ _ _ h => h) (Or.inr ⟨by rfl, rfl⟩) ?_
            conv => arg 7; simp only [List.getElem_toArray, List.getElem_cons_zero, List.getElem_cons_succ, Act.put, List.setIfInBounds_toArray, List.set_cons_zero, List.set_cons_succ]
            refine wpAny_take (i := 34) (v := undef) rfl (by kernel_rfl) (by kernel_rfl) (by kernel_rfl) (fun _ _ _ h => h) (Or.inr ⟨by rfl, rfl⟩) ?_
            conv => arg 7; simp only [List.getElem_toArray, List.getElem_cons_zero, List.getElem_cons_succ, Act.put, List.setIfInBounds_toArray, List.set_cons_zero, List.set_cons_succ]
            refine wpAny_take (i := 35) (v := ?_) rfl (by kernel_rfl) (by kernel_rfl) (by kernel_rfl) (fun _ _ _ h => h) (Or.inl ⟨by rfl, ?_⟩) ?_
            rotate_left
            · (intro w; go_simp; try with_reducible rfl)
            conv => arg 7; simp only [List.getElem_toArray, List.getElem_cons_zero, List.getElem_cons_succ, Act.put, List.setIfInBounds_toArray, List.set_cons_zero, List.set_cons_succ]
            refine wpAny_take (i := 36) (v := ?_) rfl (by kernel_rfl) (by kernel_rfl) (by kernel_rfl) (fun _ _ _ h => h) (Or.inl ⟨by rfl, ?_⟩) ?_
            rotate_left
            · (intro w; go_simp; try with_reducible rfl)
            conv => arg 7; simp only [List.getElem_toArray, List.getElem_cons_zero, List.getElem_cons_succ, Act.put, List.setIfInBounds_toArray, List.set_cons_zero, List.set_cons_succ]
            refine wpAny_take (i := 37) (v := ?_) rfl (by kernel_rfl) (by kernel_rfl) (by kernel_rfl) (fun _ _ _ h => h) (Or.inl ⟨by rfl, ?_⟩) ?_
            rotate_left
            · (intro w; go_simp; try with_reducible rfl)
            conv => arg 7; simp only [List.getElem_toArray, List.getElem_cons_zero, List.getElem_cons_succ, Act.put, List.setIfInBounds_toArray, List.set_cons_zero, List.set_cons_succ]
            refine wpAny_take (i := 38) (v := ?_) rfl (by kernel_rfl) (by kernel_rfl) (by kernel_rfl) (fun _ _ _ h => h) (Or.inl ⟨by rfl, ?_⟩) ?_
            rotate_left
            · (intro w; go_simp; try with_reducible rfl)
            conv => arg 7; simp only [List.getElem_toArray, List.getElem_cons_zero, List.getElem_cons_succ, Act.put, List.setIfInBounds_toArray, List.set_cons_zero, List.set_cons_succ]
            refine wpAny_take (i := 39) (v := ?_) rfl (by kernel_rfl) (by kernel_rfl) (by kernel_rfl) (fun _ _ _ h => h) (Or.inl ⟨by rfl, ?_⟩) ?_
            rotate_left
            · (intro w; go_simp; try with_reducible rfl)
            conv => arg 7; simp only [List.getElem_toArray, List.getElem_cons_zero, List.getElem_cons_succ, Act.put, List.setIfInBounds_toArray, List.set_cons_zero, List.set_cons_succ]
            refine wpAny_take (i := 40) (v := ?_) rfl (by kernel_rfl) (by kernel_rfl) (by kernel_rfl) (fun _ _ _ h => h) (Or.inl ⟨by rfl, ?_⟩) ?_
            rotate_left
            · (intro w; go_simp; try with_reducible rfl)
            conv => arg 7; simp only [List.getElem_toArray, List.getElem_cons_zero, List.getElem_cons_succ, Act.put, List.setIfInBounds_toArray, List.set_cons_zero, List.set_cons_succ]
            refine wpAny_take (i := 41) (v := ?_) rfl (by kernel_rfl) (by kernel_rfl) (by kernel_rfl) (fun _ _ _ h => h) (Or.inl ⟨by rfl, ?_⟩) ?_
            rotate_left
            · (intro w; go_simp; try with_reducible rfl)
            conv => arg 7; simp only [List.getElem_toArray, List.getElem_cons_zero, List.getElem_cons_succ, Act.put, List.setIfInBounds_toArray, List.set_cons_zero, List.set_cons_succ]
            refine wpAny_take (i := 42) (v := ?_) rfl (by kernel_rfl) (by kernel_rfl) (by kernel_rfl) (fun _ _ _ h => h) (Or.inl ⟨by rfl, ?_⟩) ?_
            rotate_left
            · (intro w; go_simp; try with_reducible rfl)
            conv => arg 7; simp only [List.getElem_toArray, List.getElem_cons_zero, List.getElem_cons_succ, Act.put, List.setIfInBounds_toArray, List.set_cons_zero, List.set_cons_succ]
            refine wpAny_take (i := 43) (v := ?_) rfl (by kernel_rfl) (by kernel_rfl) (by kernel_rfl) (fun _ _ _ h => h) (Or.inl ⟨by rfl, ?_⟩) ?_
            rotate_left
            · (intro w; go_simp; try with_reducible rfl)
            conv => arg 7; simp only [List.getElem_toArray, List.getElem_cons_zero, List.getElem_cons_succ, Act.put, List.setIfInBounds_toArray, List.set_cons_zero, List.set_cons_succ]
            refine wpAny_take (i := 44) (v := ?_) rfl (by kernel_rfl) (by kernel_rfl) (by kernel_rfl) (fun _ _ _ h => h) (Or.inl ⟨by rfl, ?_⟩) ?_
            rotate_left
            · (intro w; go_simp; try with_reducible rfl)
            conv => arg 7; simp only [List.getElem_toArray, List.getElem_cons_zero, List.getElem_cons_succ, Act.put, List.setIfInBounds_toArray, List.set_cons_zero, List.set_cons_succ]
            refine wpAny_take (i := 45) (v := ?_) rfl (by kernel_rfl) (by kernel_rfl) (by kernel_rfl) (fun _ _ _ h => h) (Or.inl ⟨by rfl, ?_⟩) ?_
            rotate_left
            · (intro w; go_simp; try with_reducible rfl)
            conv => arg 7; simp only [List.getElem_toArray, List.getElem_cons_zero, List.getElem_cons_succ, Act.put, List.setIfInBounds_toArray, List.set_cons_zero, List.set_cons_succ]
            refine wpAny_take (i := 46) (v := ?_) rfl (by kernel_rfl) (by kernel_rfl) (by kernel_rfl) (fun _ _ _ h => h) (Or.inl ⟨by rfl, ?_⟩) ?_
            rotate_left
            · (intro w; go_simp; try with_reducible rfl)
            conv => arg 7; simp only [List.getElem_toArray, List.getElem_cons_zero, List.getElem_cons_succ, Act.put, List.setIfInBounds_toArray, List.set_cons_zero, List.set_cons_succ]
            refine wpAny_take (i := 47) (v := ?_) rfl (by kernel_rfl) (by kernel_rfl) (by kernel_rfl) (fun _ _ _ h => h) (Or.inl ⟨by rfl, ?_⟩) ?_
            rotate_left
            · (intro w; go_simp; try with_reducible rfl)
            conv => arg 7; simp only [List.getElem_toArray, List.getElem_cons_zero, List.getElem_cons_succ, Act.put, List.setIfInBounds_toArray, List.set_cons_zero, List.set_cons_succ]
            refine wpAny_take (i := 48) (v := ?_) rfl (by kernel_rfl) (by kernel_rfl) (by kernel_rfl) (fun _ _ _ h => h) (Or.inl ⟨by rfl, ?_⟩) ?_
            rotate_left
            · (intro w; go_simp; try with_reducible rfl)
            conv => arg 7; simp only [List.getElem_toArray, List.getElem_cons_zero, List.getElem_cons_succ, Act.put, List.setIfInBounds_toArray, List.set_cons_zero, List.set_cons_succ]
            refine wpAny_take (i := 49) (v := ?_) rfl (by kernel_rfl) (by kernel_rfl) (by kernel_rfl) (fun _ _ _ h => h) (Or.inl ⟨by rfl, ?_⟩) ?_
            rotate_left
            · (intro w; go_simp; try with_reducible rfl)
            conv => arg 7; simp only [List.getElem_toArray, List.getElem_cons_zero, List.getElem_cons_succ, Act.put, List.setIfInBounds_toArray, List.set_cons_zero, List.set_cons_succ]
            refine wpAny_take (i := 50) (v := ?_) rfl (by kernel_rfl) (by kernel_rfl) (by kernel_rfl) (fun _ _ _ h => h) (Or.inl ⟨by rfl, ?_⟩) ?_
            rotate_left
            · (intro w; go_simp; try with_reducible rfl)
            conv => arg 7; simp only [List.getElem_toArray, List.getElem_cons_zero, List.getElem_cons_succ, Act.put, List.setIfInBounds_toArray, List.set_cons_zero, List.set_cons_succ]
            refine wpAny_take (i := 51) (v := ?_) rfl (by kernel_rfl) (by kernel_rfl) (by kernel_rfl) (fun _ _ _ h => h) (Or.inl ⟨by rfl, ?_⟩) ?_
            rotate_left
            · (intro w; go_simp; try with_reducible rfl)
            conv => arg 7; simp only [List.getElem_toArray, List.getElem_cons_zero, List.getElem_cons_succ, Act.put, List.setIfInBounds_toArray, List.set_cons_zero, List.set_cons_succ]
            refine wpAny_take (i := 52) (v := ?_) rfl (by kernel_rfl) (by kernel_rfl) (by kernel_rfl) (fun _ _ _ h => h) (Or.inl ⟨by rfl, ?_⟩) ?_
            rotate_left
            · (intro w; go_simp; try with_reducible rfl)
            conv => arg 7; simp only [List.getElem_toArray, List.getElem_cons_zero, List.getElem_cons_succ, Act.put, List.setIfInBounds_toArray, List.set_cons_zero, List.set_cons_succ]
            refine wpAny_take (i := 54) (v := ?_) rfl (by kernel_rfl) (by kernel_rfl) (by kernel_rfl) (fun _ _ _ h => h) (Or.inl ⟨by rfl, ?_⟩) ?_
            rotate_left
            · (intro w; go_simp; try with_reducible rfl)
            conv => arg 7; simp only [List.getElem_toArray, List.getElem_cons_zero, List.getElem_cons_succ, Act.put, List.setIfInBounds_toArray, List.set_cons_zero, List.set_cons_succ]
            refine wpAny_ready (rs := [53]) (by kernel_rfl) (by simp) (AllReady.cons rfl (fun K hK => ?_) AllReady.nil)
            go_simp
            have KD := HX.out.digest A n cap t (by rw [HNL.out]; omega) HN.out (by omega) hnc HA.out (HL.out.below HX.out.below)
            rw [(lng_same t M).1, (lng_same t M).2] at KD
            refine KD.mono ?_
            clear KD
            rintro e W1 ⟨rfl, h1⟩
            go_simp
            refine hK _ _ ?_
            clear hK
            conv => arg 7; simp only [List.getElem_toArray, List.getElem_cons_zero, List.getElem_cons_succ, Act.put, List.setIfInBounds_toArray, List.set_cons_zero, List.set_cons_succ]
            refine wpAny_take (i := 55) (v := ?_) rfl (by kernel_rfl) (by kernel_rfl) (by kernel_rfl) (fun _ _ _ h => h) (Or.inl ⟨by rfl, ?_⟩) ?_
            rotate_left
            · (intro w; go_simp; try with_reducible rfl)
            conv => arg 7; simp only [List.getElem_toArray, List.getElem_cons_zero, List.getElem_cons_succ, Act.put, List.setIfInBounds_toArray, List.set_cons_zero, List.set_cons_succ]
            refine wpAny_take (i := 56) (v := ?_) rfl (by kernel_rfl) (by kernel_rfl) (by kernel_rfl) (fun _ _ _ h => h) (Or.inl ⟨by rfl, ?_⟩) ?_
            rotate_left
            · (intro w; go_simp; try with_reducible rfl)
            conv => arg 7; simp only [List.getElem_toArray, List.getElem_cons_zero, List.getElem_cons_succ, Act.put, List.setIfInBounds_toArray, List.set_cons_zero, List.set_cons_succ]
            refine wpAny_take (i := 57) (v := ?_) rfl (by kernel_rfl) (by kernel_rfl) (by kernel_rfl) (fun _ _ _ h => h) (Or.inl ⟨by rfl, ?_⟩) ?_
            rotate_left
            · (intro w; go_simp; try with_reducible rfl)
            conv => arg 7; simp only [List.getElem_toArray, List.getElem_cons_zero, List.getElem_cons_succ, Act.put, List.setIfInBounds_toArray, List.set_cons_zero, List.set_cons_succ]
            refine wpAny_ready (rs := [58]) (by kernel_rfl) (by simp) (AllReady.cons rfl (fun K hK => ?_) AllReady.nil)
            go_simp
            refine (awake_any T _).mono ?_
            rintro e W2 ⟨rfl, hb2⟩
            go_simp
            refine hK _ _ ?_
            clear hK
            conv => arg 7; simp only [List.getElem_toArray, List.getElem_cons_zero, List.getElem_cons_succ, Act.put, List.setIfInBounds_toArray, List.set_cons_zero, List.set_cons_succ]
            refine wpAny_take (i := 59) (v := ?_) rfl (by kernel_rfl) (by kernel_rfl) (by kernel_rfl) (fun _ _ _ h => h) (Or.inl ⟨by rfl, ?_⟩) ?_
            rotate_left
            · (intro w; go_simp; try with_reducible rfl)
            conv => arg 7; simp only [List.getElem_toArray, List.getElem_cons_zero, List.getElem_cons_succ, Act.put, List.setIfInBounds_toArray, List.set_cons_zero, List.set_cons_succ]
            refine wpAny_take (i := 60) (v := ?_) rfl (by kernel_rfl) (by kernel_rfl) (by kernel_rfl) (fun _ _ _ h => h) (Or.inl ⟨by rfl, ?_⟩) ?_
            rotate_left
            · (intro w; go_simp; try with_reducible rfl)
            conv => arg 7; simp only [List.getElem_toArray, List.getElem_cons_zero, List.getElem_cons_succ, Act.put, List.setIfInBounds_toArray, List.set_cons_zero, List.set_cons_succ]
            refine wpAny_done (by kernel_rfl) ?_ _
            go_wp2_with fail
            go_meet
            exact ⟨rfl, h1.below.trans (hb2.mono h1.size)⟩
          · have e4 : (bn == 0) = false := by
              rw [beq_eq_false_iff_ne, ← HBN.out]
              intro h0
              exact hc (UInt8.toNat_inj.1 (by have : c.toNat = 0 := by omega
                                              rw [this]; rfl))
            by_cases hn0 : n = 0
            · have e3 : (g == 1) = true := by rw [HGB.out]; simp [hn0]
              have e5 : ((n : Int) == 0) = true := by rw [hn0]; rfl
              have HC := Lib.hid hc; have HN0 := Lib.hid hn0
              clear hc hn0
              refine wpAny_take (i := 28) (v := ?_) rfl (by kernel_rfl) (by kernel_rfl) (by kernel_rfl) (fun _ _ _ h => h) (Or.inl ⟨by rfl, ?_⟩) ?_
              rotate_left
              · (intro w; go_simp; try with_reducible rfl)
              conv => arg 7; simp only [List.getElem_toArray, List.getElem_cons_zero, List.getElem_cons_succ, Act.put, List.setIfInBounds_toArray, List.set_cons_zero, List.set_cons_succ]
              refine wpAny_take (i := 29) (v := ?_) rfl (by kernel_rfl) (by kernel_rfl) (by kernel_rfl) (fun _ _ _ h => h) (Or.inl ⟨by rfl, ?_⟩) ?_
              rotate_left
              · (intro w; go_simp; try with_reducible rfl)
              conv => arg 7; simp only [List.getElem_toArray, List.getElem_cons_zero, List.getElem_cons_succ, Act.put, List.setIfInBounds_toArray, List.set_cons_zero, List.set_cons_succ]
              refine wpAny_take (i := 30) (v := ?_) rfl (by kernel_rfl) (by kernel_rfl) (by kernel_rfl) (fun _ _ _ h => h) (Or.inl ⟨by rfl, ?_⟩) ?_
              rotate_left
              · (intro w; go_simp; try with_reducible rfl)
              conv => arg 7; simp only [List.getElem_toArray, List.getElem_cons_zero, List.getElem_cons_succ, Act.put, List.setIfInBounds_toArray, List.set_cons_zero, List.set_cons_succ]
              refine wpAny_take (i := 31) (v := ?_) rfl (by kernel_rfl) (by kernel_rfl) (by kernel_rfl) (fun _ _ _ h => h) (Or.inl ⟨by rfl, ?_⟩) ?_
              rotate_left
              · (intro w; go_simp; try with_reducible rfl)
              conv => arg 7; simp only [List.getElem_toArray, List.getElem_cons_zero, List.getElem_cons_succ, Act.put, List.setIfInBounds_toArray, List.set_cons_zero, List.set_cons_succ]
              refine wpAny_take (i := 32) (v := ?_) rfl (by kernel_rfl) (by kernel_rfl) (by kernel_rfl) (fun _ _ _ h => h) (Or.inl ⟨by rfl, ?_⟩) ?_
              rotate_left
              · (intro w; go_simp; try with_reducible rfl)
              conv => arg 7; simp only [List.getElem_toArray, List.getElem_cons_zero, List.getElem_cons_succ, Act.put, List.setIfInBounds_toArray, List.set_cons_zero, List.set_cons_succ]
              refine wpAny_take (i := 33) (v := ?_) rfl (by kernel_rfl) (by kernel_rfl) (by kernel_rfl) (fun _ _ _ h => h) (Or.inl ⟨by rfl, ?_⟩) ?_
              rotate_left
              · (intro w; go_simp; try with_reducible rfl)
              conv => arg 7; simp only [List.getElem_toArray, List.getElem_cons_zero, List.getElem_cons_succ, Act.put, List.setIfInBounds_toArray, List.set_cons_zero, List.set_cons_succ]
              refine wpAny_take (i := 34) (v := ?_) rfl (by kernel_rfl) (by kernel_rfl) (by kernel_rfl) (fun _ _ _ h => h) (Or.inl ⟨by rfl, ?_⟩) ?_
              rotate_left
              · (intro w; go_simp; try with_reducible rfl)
              conv => arg 7; simp only [List.getElem_toArray, List.getElem_cons_zero, List.getElem_cons_succ, Act.put, List.setIfInBounds_toArray, List.set_cons_zero, List.set_cons_succ]
              refine wpAny_take (i := 35) (v := ?_) rfl (by kernel_rfl) (by kernel_rfl) (by kernel_rfl) (fun _ _ _ h => h) (Or.inl ⟨by rfl, ?_⟩) ?_
              rotate_left
              · (intro w; go_simp; try with_reducible rfl)
              conv => arg 7; simp only [List.getElem_toArray, List.getElem_cons_zero, List.getElem_cons_succ, Act.put, List.setIfInBounds_toArray, List.set_cons_zero, List.set_cons_succ]
              refine wpAny_take (i := 36) (v := ?_) rfl (by kernel_rfl) (by kernel_rfl) (by kernel_rfl) (fun _ _ _ h => h) (Or.inl ⟨by rfl, ?_⟩) ?_
              rotate_left
              · (intro w; go_simp; try with_reducible rfl)
              conv => arg 7; simp only [List.getElem_toArray, List.getElem_cons_zero, List.getElem_cons_succ, Act.put, List.setIfInBounds_toArray, List.set_cons_zero, List.set_cons_succ]
              refine wpAny_take (i := 37) (v := ?_) rfl (by kernel_rfl) (by kernel_rfl) (by kernel_rfl) (fun _ _ _ h => h) (Or.inl ⟨by rfl, ?_⟩) ?_
              rotate_left
              · (intro w; go_simp; try with_reducible rfl)
              conv => arg 7; simp only [List.getElem_toArray, List.getElem_cons_zero, List.getElem_cons_succ, Act.put, List.setIfInBounds_toArray, List.set_cons_zero, List.set_cons_succ]
              refine wpAny_take (i := 38) (v := ?_) rfl (by kernel_rfl) (by kernel_rfl) (by kernel_rfl) (fun _ _ _ h => h) (Or.inl ⟨by rfl, ?_⟩) ?_
              rotate_left
              · (intro w; go_simp; try with_reducible rfl)
              conv => arg 7; simp only [List.getElem_toArray, List.getElem_cons_zero, List.getElem_cons_succ, Act.put, List.setIfInBounds_toArray, List.set_cons_zero, List.set_cons_succ]
              refine wpAny_take (i := 39) (v := ?_) rfl (by kernel_rfl) (by kernel_rfl) (by kernel_rfl) (fun _ _ _ h => h) (Or.inl ⟨by rfl, ?_⟩) ?_
              rotate_left
              · (intro w; go_simp; try with_reducible rfl)
              conv => arg 7; simp only [List.getElem_toArray, List.getElem_cons_zero, List.getElem_cons_succ, Act.put, List.setIfInBounds_toArray, List.set_cons_zero, List.set_cons_succ]
              refine wpAny_take (i := 40) (v := ?_) rfl (by kernel_rfl) (by kernel_rfl) (by kernel_rfl) (fun _ _ _ h => h) (Or.inl ⟨by rfl, ?_⟩) ?_
              rotate_left
              · (intro w; go_simp; try with_reducible rfl)
              conv => arg 7; simp only [List.getElem_toArray, List.getElem_cons_zero, List.getElem_cons_succ, Act.put, List.setIfInBounds_toArray, List.set_cons_zero, List.set_cons_succ]
              refine wpAny_take (i := 41) (v := ?_) rfl (by kernel_rfl) (by kernel_rfl) (by kernel_rfl) (fun _ _ _ h => h) (Or.inl ⟨by rfl, ?_⟩) ?_
              rotate_left
              · (intro w; go_simp; try with_reducible rfl)
              conv => arg 7; simp only [List.getElem_toArray, List.getElem_cons_zero, List.getElem_cons_succ, Act.put, List.setIfInBounds_toArray, List.set_cons_zero, List.set_cons_succ]
              refine wpAny_take (i := 42) (v := ?_) rfl (by kernel_rfl) (by kernel_rfl) (by kernel_rfl) (fun _ _ _ h => h) (Or.inl ⟨by rfl, ?_⟩) ?_
              rotate_left
              · (intro w; go_simp; try with_reducible rfl)
              conv => arg 7; simp only [List.getElem_toArray, List.getElem_cons_zero, List.getElem_cons_succ, Act.put, List.setIfInBounds_toArray, List.set_cons_zero, List.set_cons_succ]
              refine wpAny_take (i := 43) (v := ?_) rfl (by kernel_rfl) (by kernel_rfl) (by kernel_rfl) (fun _ _ _ h => h) (Or.inl ⟨by rfl, ?_⟩) ?_
              rotate_left
              · (intro w; go_simp; try with_reducible rfl)
              conv => arg 7; simp only [List.getElem_toArray, List.getElem_cons_zero, List.getElem_cons_succ, Act.put, List.setIfInBounds_toArray, List.set_cons_zero, List.set_cons_succ]
              refine wpAny_take (i := 44) (v := ?_) rfl (by kernel_rfl) (by kernel_rfl) (by kernel_rfl) (fun _ _ _ h => h) (Or.inl ⟨by rfl, ?_⟩) ?_
              rotate_left
              · (intro w; go_simp; try with_reducible rfl)
              conv => arg 7; simp only [List.getElem_toArray, List.getElem_cons_zero, List.getElem_cons_succ, Act.put, List.setIfInBounds_toArray, List.set_cons_zero, List.set_cons_succ]
              refine wpAny_take (i := 45) (v := ?_) rfl (by kernel_rfl) (by kernel_rfl) (by kernel_rfl) (fun _ _ _ h => h) (Or.inl ⟨by rfl, ?_⟩) ?_
              rotate_left
              · (intro w; go_simp; try with_reducible rfl)
              conv => arg 7; simp only [List.getElem_toArray, List.getElem_cons_zero, List.getElem_cons_succ, Act.put, List.setIfInBounds_toArray, List.set_cons_zero, List.set_cons_succ]
              refine wpAny_take (i := 46) (v := ?_) rfl (by kernel_rfl) (by kernel_rfl) (by kernel_rfl) (fun _ _ _ h => h) (Or.inl ⟨by rfl, ?_⟩) ?_
              rotate_left
              · (intro w; go_simp; try with_reducible rfl)
              conv => arg 7; simp only [List.getElem_toArray, List.getElem_cons_zero, List.getElem_cons_succ, Act.put, List.setIfInBounds_toArray, List.set_cons_zero, List.set_cons_succ]
              refine wpAny_take (i := 47) (v := ?_) rfl (by kernel_rfl) (by kernel_rfl) (by kernel_rfl) (fun _ _ _ h => h) (Or.inl ⟨by rfl, ?_⟩) ?_
              rotate_left
              · (intro w; go_simp; try with_reducible rfl)
              conv => arg 7; simp only [List.getElem_toArray, List.getElem_cons_zero, List.getElem_cons_succ, Act.put, List.setIfInBounds_toArray, List.set_cons_zero, List.set_cons_succ]
              refine wpAny_take (i := 48) (v := ?_) rfl (by kernel_rfl) (by kernel_rfl) (by kernel_rfl) (fun _ _ _ h => h) (Or.inl ⟨by rfl, ?_⟩) ?_
              rotate_left
              · (intro w; go_simp; try with_reducible rfl)
              conv => arg 7; simp only [List.getElem_toArray, List.getElem_cons_zero, List.getElem_cons_succ, Act.put, List.setIfInBounds_toArray, List.set_cons_zero, List.set_cons_succ]
              refine wpAny_take (i := 49) (v := ?_) rfl (by kernel_rfl) (by kernel_rfl) (by kernel_rfl) (fun _ _ _ h => h) (Or.inl ⟨by rfl, ?_⟩) ?_
              rotate_left
              · (intro w; go_simp; try with_reducible rfl)
              conv => arg 7; simp only [List.getElem_toArray, List.getElem_cons_zero, List.getElem_cons_succ, Act.put, List.setIfInBounds_toArray, List.set_cons_zero, List.set_cons_succ]
              refine wpAny_take (i := 50) (v := ?_) rfl (by kernel_rfl) (by kernel_rfl) (by kernel_rfl) (fun _ _ _ h => h) (Or.inl ⟨by rfl, ?_⟩) ?_
              rotate_left
              · (intro w; go_simp; try with_reducible rfl)
              conv => arg 7; simp only [List.getElem_toArray, List.getElem_cons_zero, List.getElem_cons_succ, Act.put, List.setIfInBounds_toArray, List.set_cons_zero, List.set_cons_succ]
              refine wpAny_take (i := 51) (v := ?_) rfl (by kernel_rfl) (by kernel_rfl) (by kernel_rfl) (fun _ _ _ h => h) (Or.inl ⟨by rfl, ?_⟩) ?_
              rotate_left
              · (intro w; go_simp; try with_reducible rfl)
              conv => arg 7; simp only [List.getElem_toArray, List.getElem_cons_zero, List.getElem_cons_succ, Act.put, List.setIfInBounds_toArray, List.set_cons_zero, List.set_cons_succ]
              refine wpAny_take (i := 52) (v := ?_) rfl (by kernel_rfl) (by kernel_rfl) (by kernel_rfl) (fun _ _ _ h => h) (Or.inl ⟨by rfl, ?_⟩) ?_
              rotate_left
              · (intro w; go_simp; try with_reducible rfl)
              conv => arg 7; simp only [List.getElem_toArray, List.getElem_cons_zero, List.getElem_cons_succ, Act.put, List.setIfInBounds_toArray, List.set_cons_zero, List.set_cons_succ]
              refine wpAny_take (i := 54) (v := ?_) rfl (by kernel_rfl) (by kernel_rfl) (by kernel_rfl) (fun _ _ _ h => h) (Or.inl ⟨by rfl, ?_⟩) ?_
              rotate_left
              · (intro w; go_simp; try with_reducible rfl)
              conv => arg 7; simp only [List.getElem_toArray, List.getElem_cons_zero, List.getElem_cons_succ, Act.put, List.setIfInBounds_toArray, List.set_cons_zero, List.set_cons_succ]
              refine wpAny_ready (rs := [53]) (by kernel_rfl) (by simp) (AllReady.cons rfl (fun K hK => ?_) AllReady.nil)
              go_simp
              have KD := HX.out.digest A n cap t (by rw [HNL.out]; omega) HN.out (by omega) hnc HA.out (HL.out.below HX.out.below)
              rw [(lng_same t M).1, (lng_same t M).2] at KD
              refine KD.mono ?_
              clear KD
              rintro e W1 ⟨rfl, h1⟩
              go_simp
              refine hK _ _ ?_
              clear hK
              conv => arg 7; simp only [List.getElem_toArray, List.getElem_cons_zero, List.getElem_cons_succ, Act.put, List.setIfInBounds_toArray, List.set_cons_zero, List.set_cons_succ]
              refine wpAny_take (i := 55) (v := ?_) rfl (by kernel_rfl) (by kernel_rfl) (by kernel_rfl) (fun _ _ _ h => h) (Or.inl ⟨by rfl, ?_⟩) ?_
              rotate_left
              · (intro w; go_simp; try with_reducible rfl)
              conv => arg 7; simp only [List.getElem_toArray, List.getElem_cons_zero, List.getElem_cons_succ, Act.put, List.setIfInBounds_toArray, List.set_cons_zero, List.set_cons_succ]
              refine wpAny_take (i := 56) (v := ?_) rfl (by kernel_rfl) (by kernel_rfl) (by kernel_rfl) (fun _ _ _ h => h) (Or.inl ⟨by rfl, ?_⟩) ?_
              rotate_left
              · (intro w; go_simp; try with_reducible rfl)
              conv => arg 7; simp only [List.getElem_toArray, List.getElem_cons_zero, List.getElem_cons_succ, Act.put, List.setIfInBounds_toArray, List.set_cons_zero, List.set_cons_succ]
              refine wpAny_take (i := 57) (v := ?_) rfl (by kernel_rfl) (by kernel_rfl) (by kernel_rfl) (fun _ _ _ h => h) (Or.inl ⟨by rfl, ?_⟩) ?_
              rotate_left
              · (intro w; go_simp; try with_reducible rfl)
              conv => arg 7; simp only [List.getElem_toArray, List.getElem_cons_zero, List.getElem_cons_succ, Act.put, List.setIfInBounds_toArray, List.set_cons_zero, List.set_cons_succ]
              refine wpAny_ready (rs := [58]) (by kernel_rfl) (by simp) (AllReady.cons rfl (fun K hK => ?_) AllReady.nil)
              go_simp
              refine (awake_any T _).mono ?_
              rintro e W2 ⟨rfl, hb2⟩
              go_simp
              refine hK _ _ ?_
              clear hK
              conv => arg 7; simp only [List.getElem_toArray, List.getElem_cons_zero, List.getElem_cons_succ, Act.put, List.setIfInBounds_toArray, List.set_cons_zero, List.set_cons_succ]
              refine wpAny_take (i := 59) (v := ?_) rfl (by kernel_rfl) (by kernel_rfl) (by kernel_rfl) (fun _ _ _ h => h) (Or.inl ⟨by rfl, ?_⟩) ?_
              rotate_left
              · (intro w; go_simp; try with_reducible rfl)
              conv => arg 7; simp only [List.getElem_toArray, List.getElem_cons_zero, List.getElem_cons_succ, Act.put, List.setIfInBounds_toArray, List.set_cons_zero, List.set_cons_succ]
              refine wpAny_take (i := 60) (v := ?_) rfl (by kernel_rfl) (by kernel_rfl) (by kernel_rfl) (fun _ _ _ h => h) (Or.inl ⟨by rfl, ?_⟩) ?_
              rotate_left
              · (intro w; go_simp; try with_reducible rfl)
              conv => arg 7; simp only [List.getElem_toArray, List.getElem_cons_zero, List.getElem_cons_succ, Act.put, List.setIfInBounds_toArray, List.set_cons_zero, List.set_cons_succ]
              refine wpAny_done (by kernel_rfl) ?_ _
              go_wp2_with fail
              go_meet
              exact ⟨rfl, h1.below.trans (hb2.mono h1.size)⟩
            · have e3 : (g == 1) = false := by rw [HGB.out]; simp [hn0, hc]
              have e5 : ((n : Int) == 0) = false := by simp; omega
              have HC := Lib.hid hc; have HN0 := Lib.hid hn0
              clear hc hn0
              refine wpAny_take (i := 28) (v := ?_) rfl (by kernel_rfl) (by kernel_rfl) (by kernel_rfl) (fun _ _ _ h => h) (Or.inl ⟨by rfl, ?_⟩) ?_
              rotate_left
              · (intro w; go_simp; try with_reducible rfl)
              conv => arg 7; simp only [List.getElem_toArray, List.getElem_cons_zero, List.getElem_cons_succ, Act.put, List.setIfInBounds_toArray, List.set_cons_zero, List.set_cons_succ]
              refine wpAny_take (i := 29) (v := ?_) rfl (by kernel_rfl) (by kernel_rfl) (by kernel_rfl) (fun _ _ _ h => h) (Or.inl ⟨by rfl, ?_⟩) ?_
              rotate_left
              · (intro w; go_simp; try with_reducible rfl)
              conv => arg 7; simp only [List.getElem_toArray, List.getElem_cons_zero, List.getElem_cons_succ, Act.put, List.setIfInBounds_toArray, List.set_cons_zero, List.set_cons_succ]
              refine wpAny_take (i := 30) (v := ?_) rfl (by kernel_rfl) (by kernel_rfl) (by kernel_rfl) (fun _ _ _ h => h) (Or.inl ⟨by rfl, ?_⟩) ?_
              rotate_left
              · (intro w; go_simp; try with_reducible rfl)
              conv => arg 7; simp only [List.getElem_toArray, List.getElem_cons_zero, List.getElem_cons_succ, Act.put, List.setIfInBounds_toArray, List.set_cons_zero, List.set_cons_succ]
              refine wpAny_take (i := 31) (v := ?_) rfl (by kernel_rfl) (by kernel_rfl) (by kernel_rfl) (fun _ _ _ h => h) (Or.inl ⟨by rfl, ?_⟩) ?_
              rotate_left
              · (intro w; go_simp; try with_reducible rfl)
              conv => arg 7; simp only [List.getElem_toArray, List.getElem_cons_zero, List.getElem_cons_succ, Act.put, List.setIfInBounds_toArray, List.set_cons_zero, List.set_cons_succ]
              refine wpAny_take (i := 32) (v := ?_) rfl (by kernel_rfl) (by kernel_rfl) (by kernel_rfl) (fun _ _ _ h => h) (Or.inl ⟨by rfl, ?_⟩) ?_
              rotate_left
              · (intro w; go_simp; try with_reducible rfl)
              conv => arg 7; simp only [List.getElem_toArray, List.getElem_cons_zero, List.getElem_cons_succ, Act.put, List.setIfInBounds_toArray, List.set_cons_zero, List.set_cons_succ]
              refine wpAny_take (i := 33) (v := ?_) rfl (by kernel_rfl) (by kernel_rfl) (by kernel_rfl) (fun _ _ _ h => h) (Or.inl ⟨by rfl, ?_⟩) ?_
              rotate_left
              · (intro w; go_simp; try with_reducible rfl)
              conv => arg 7; simp only [List.getElem_toArray, List.getElem_cons_zero, List.getElem_cons_succ, Act.put, List.setIfInBounds_toArray, List.set_cons_zero, List.set_cons_succ]
              refine wpAny_take (i := 34) (v := ?_) rfl (by kernel_rfl) (by kernel_rfl) (by kernel_rfl) (fun _ _ _ h => h) (Or.inl ⟨by rfl, ?_⟩) ?_
              rotate_left
              · (intro w; go_simp; try with_reducible rfl)
              conv => arg 7; simp only [List.getElem_toArray, List.getElem_cons_zero, List.getElem_cons_succ, Act.put, List.setIfInBounds_toArray, List.set_cons_zero, List.set_cons_succ]
              refine wpAny_take (i := 35) (v := ?_) rfl (by kernel_rfl) (by kernel_rfl) (by kernel_rfl) (fun _ _ _ h => h) (Or.inl ⟨by rfl, ?_⟩) ?_
              rotate_left
              · (intro w; go_simp; try with_reducible rfl)
              conv => arg 7; simp only [List.getElem_toArray, List.getElem_cons_zero, List.getElem_cons_succ, Act.put, List.setIfInBounds_toArray, List.set_cons_zero, List.set_cons_succ]
              refine wpAny_take (i := 36) (v := ?_) rfl (by kernel_rfl) (by kernel_rfl) (by kernel_rfl) (fun _ _ _ h => h) (Or.inl ⟨by rfl, ?_⟩) ?_
              rotate_left
              · (intro w; go_simp; try with_reducible rfl)
              conv => arg 7; simp only [List.getElem_toArray, List.getElem_cons_zero, List.getElem_cons_succ, Act.put, List.setIfInBounds_toArray, List.set_cons_zero, List.set_cons_succ]
              refine wpAny_take (i := 37) (v := ?_) rfl (by kernel_rfl) (by kernel_rfl) (by kernel_rfl) (fun _ _ _ h => h) (Or.inl ⟨by rfl, ?_⟩) ?_
              rotate_left
              · (intro w; go_simp; try with_reducible rfl)
              conv => arg 7; simp only [List.getElem_toArray, List.getElem_cons_zero, List.getElem_cons_succ, Act.put, List.setIfInBounds_toArray, List.set_cons_zero, List.set_cons_succ]
              refine wpAny_take (i := 38) (v := ?_) rfl (by kernel_rfl) (by kernel_rfl) (by kernel_rfl) (fun _ _ _ h => h) (Or.inl ⟨by rfl, ?_⟩) ?_
              rotate_left
              · (intro w; go_simp; try with_reducible rfl)
              conv => arg 7; simp only [List.getElem_toArray, List.getElem_cons_zero, List.getElem_cons_succ, Act.put, List.setIfInBounds_toArray, List.set_cons_zero, List.set_cons_succ]
              refine wpAny_take (i := 39) (v := ?_) rfl (by kernel_rfl) (by kernel_rfl) (by kernel_rfl) (fun _ _ _ h => h) (Or.inl ⟨by rfl, ?_⟩) ?_
              rotate_left
              · (intro w; go_simp; try with_reducible rfl)
              conv => arg 7; simp only [List.getElem_toArray, List.getElem_cons_zero, List.getElem_cons_succ, Act.put, List.setIfInBounds_toArray, List.set_cons_zero, List.set_cons_succ]
              refine wpAny_take (i := 40) (v := ?_) rfl (by kernel_rfl) (by kernel_rfl) (by kernel_rfl) (fun _ _ _ h => h) (Or.inl ⟨by rfl, ?_⟩) ?_
              rotate_left
              · (intro w; go_simp; try with_reducible rfl)
              conv => arg 7; simp only [List.getElem_toArray, List.getElem_cons_zero, List.getElem_cons_succ, Act.put, List.setIfInBounds_toArray, List.set_cons_zero, List.set_cons_succ]
              refine wpAny_take (i := 41) (v := ?_) rfl (by kernel_rfl) (by kernel_rfl) (by kernel_rfl) (fun _ _ _ h => h) (Or.inl ⟨by rfl, ?_⟩) ?_
              rotate_left
              · (intro w; go_simp; try with_reducible rfl)
              conv => arg 7; simp only [List.getElem_toArray, List.getElem_cons_zero, List.getElem_cons_succ, Act.put, List.setIfInBounds_toArray, List.set_cons_zero, List.set_cons_succ]
              refine wpAny_take (i := 42) (v := ?_) rfl (by kernel_rfl) (by kernel_rfl) (by kernel_rfl) (fun _ _ _ h => h) (Or.inl ⟨by rfl, ?_⟩) ?_
              rotate_left
              · (intro w; go_simp; try with_reducible rfl)
              conv => arg 7; simp only [List.getElem_toArray, List.getElem_cons_zero, List.getElem_cons_succ, Act.put, List.setIfInBounds_toArray, List.set_cons_zero, List.set_cons_succ]
              refine wpAny_take (i := 43) (v := ?_) rfl (by kernel_rfl) (by kernel_rfl) (by kernel_rfl) (fun _ _ _ h => h) (Or.inl ⟨by rfl, ?_⟩) ?_
              rotate_left
              · (intro w; go_simp; try with_reducible rfl)
              conv => arg 7; simp only [List.getElem_toArray, List.getElem_cons_zero, List.getElem_cons_succ, Act.put, List.setIfInBounds_toArray, List.set_cons_zero, List.set_cons_succ]
              refine wpAny_take (i := 44) (v := ?_) rfl (by kernel_rfl) (by kernel_rfl) (by kernel_rfl) (fun _ _ _ h => h) (Or.inl ⟨by rfl, ?_⟩) ?_
              rotate_left
              · (intro w; go_simp; try with_reducible rfl)
              conv => arg 7; simp only [List.getElem_toArray, List.getElem_cons_zero, List.getElem_cons_succ, Act.put, List.setIfInBounds_toArray, List.set_cons_zero, List.set_cons_succ]
              refine wpAny_take (i := 45) (v := ?_) rfl (by kernel_rfl) (by kernel_rfl) (by kernel_rfl) (fun _ _ _ h => h) (Or.inl ⟨by rfl, ?_⟩) ?_
              rotate_left
              · (intro w; go_simp; try with_reducible rfl)
              conv => arg 7; simp only [List.getElem_toArray, List.getElem_cons_zero, List.getElem_cons_succ, Act.put, List.setIfInBounds_toArray, List.set_cons_zero, List.set_cons_succ]
              refine wpAny_take (i := 46) (v := ?_) rfl (by kernel_rfl) (by kernel_rfl) (by kernel_rfl) (fun _ _ _ h => h) (Or.inl ⟨by rfl, ?_⟩) ?_
              rotate_left
              · (intro w; go_simp; try with_reducible rfl)
              conv => arg 7; simp only [List.getElem_toArray, List.getElem_cons_zero, List.getElem_cons_succ, Act.put, List.setIfInBounds_toArray, List.set_cons_zero, List.set_cons_succ]
              refine wpAny_take (i := 47) (v := ?_) rfl (by kernel_rfl) (by kernel_rfl) (by kernel_rfl) (fun _ _ _ h => h) (Or.inl ⟨by rfl, ?_⟩) ?_
              rotate_left
              · (intro w; go_simp; try with_reducible rfl)
              conv => arg 7; simp only [List.getElem_toArray, List.getElem_cons_zero, List.getElem_cons_succ, Act.put, List.setIfInBounds_toArray, List.set_cons_zero, List.set_cons_succ]
              refine wpAny_take (i := 48) (v := ?_) rfl (by kernel_rfl) (by kernel_rfl) (by kernel_rfl) (fun _ _ _ h => h) (Or.inl ⟨by rfl, ?_⟩) ?_
              rotate_left
              · (intro w; go_simp; try with_reducible rfl)
              conv => arg 7; simp only [List.getElem_toArray, List.getElem_cons_zero, List.getElem_cons_succ, Act.put, List.setIfInBounds_toArray, List.set_cons_zero, List.set_cons_succ]
              refine wpAny_take (i := 49) (v := ?_) rfl (by kernel_rfl) (by kernel_rfl) (by kernel_rfl) (fun _ _ _ h => h) (Or.inl ⟨by rfl, ?_⟩) ?_
              rotate_left
              · (intro w; go_simp; try with_reducible rfl)
              conv => arg 7; simp only [List.getElem_toArray, List.getElem_cons_zero, List.getElem_cons_succ, Act.put, List.setIfInBounds_toArray, List.set_cons_zero, List.set_cons_succ]
              refine wpAny_take (i := 50) (v := ?_) rfl (by kernel_rfl) (by kernel_rfl) (by kernel_rfl) (fun _ _ _ h => h) (Or.inl ⟨by rfl, ?_⟩) ?_
              rotate_left
              · (intro w; go_simp; try with_reducible rfl)
              conv => arg 7; simp only [List.getElem_toArray, List.getElem_cons_zero, List.getElem_cons_succ, Act.put, List.setIfInBounds_toArray, List.set_cons_zero, List.set_cons_succ]
              refine wpAny_take (i := 51) (v := ?_) rfl (by kernel_rfl) (by kernel_rfl) (by kernel_rfl) (fun _ _ _ h => h) (Or.inl ⟨by rfl, ?_⟩) ?_
              rotate_left
              · (intro w; go_simp; try with_reducible rfl)
              conv => arg 7; simp only [List.getElem_toArray, List.getElem_cons_zero, List.getElem_cons_succ, Act.put, List.setIfInBounds_toArray, List.set_cons_zero, List.set_cons_succ]
              refine wpAny_take (i := 52) (v := ?_) rfl (by kernel_rfl) (by kernel_rfl) (by kernel_rfl) (fun _ _ _ h => h) (Or.inl ⟨by rfl, ?_⟩) ?_
              rotate_left
              · (intro w; go_simp; try with_reducible rfl)
              conv => arg 7; simp only [List.getElem_toArray, List.getElem_cons_zero, List.getElem_cons_succ, Act.put, List.setIfInBounds_toArray, List.set_cons_zero, List.set_cons_succ]
              refine wpAny_take (i := 54) (v := ?_) rfl (by kernel_rfl) (by kernel_rfl) (by kernel_rfl) (fun _ _ _ h => h) (Or.inl ⟨by rfl, ?_⟩) ?_
              rotate_left
              · (intro w; go_simp; try with_reducible rfl)
              conv => arg 7; simp only [List.getElem_toArray, List.getElem_cons_zero, List.getElem_cons_succ, Act.put, List.setIfInBounds_toArray, List.set_cons_zero, List.set_cons_succ]
              refine wpAny_ready (rs := [53]) (by kernel_rfl) (by simp) (AllReady.cons rfl (fun K hK => ?_) AllReady.nil)
              go_simp
              have KD := HX.out.digest A n cap t (by rw [HNL.out]; omega) HN.out (by omega) hnc HA.out (HL.out.below HX.out.below)
              rw [(lng_same t M).1, (lng_same t M).2] at KD
              refine KD.mono ?_
              clear KD
              rintro e W1 ⟨rfl, h1⟩
              go_simp
              refine hK _ _ ?_
              clear hK
              conv => arg 7; simp only [List.getElem_toArray, List.getElem_cons_zero, List.getElem_cons_succ, Act.put, List.setIfInBounds_toArray, List.set_cons_zero, List.set_cons_succ]
              refine wpAny_take (i := 55) (v := ?_) rfl (by kernel_rfl) (by kernel_rfl) (by kernel_rfl) (fun _ _ _ h => h) (Or.inl ⟨by rfl, ?_⟩) ?_
              rotate_left
              · (intro w; go_simp; try with_reducible rfl)
              conv => arg 7; simp only [List.getElem_toArray, List.getElem_cons_zero, List.getElem_cons_succ, Act.put, List.setIfInBounds_toArray, List.set_cons_zero, List.set_cons_succ]
              refine wpAny_take (i := 56) (v := ?_) rfl (by kernel_rfl) (by kernel_rfl) (by kernel_rfl) (fun _ _ _ h => h) (Or.inl ⟨by rfl, ?_⟩) ?_
              rotate_left
              · (intro w; go_simp; try with_reducible rfl)
              conv => arg 7; simp only [List.getElem_toArray, List.getElem_cons_zero, List.getElem_cons_succ, Act.put, List.setIfInBounds_toArray, List.set_cons_zero, List.set_cons_succ]
              refine wpAny_take (i := 57) (v := ?_) rfl (by kernel_rfl) (by kernel_rfl) (by kernel_rfl) (fun _ _ _ h => h) (Or.inl ⟨by rfl, ?_⟩) ?_
              rotate_left
              · (intro w; go_simp; try with_reducible rfl)
              conv => arg 7; simp only [List.getElem_toArray, List.getElem_cons_zero, List.getElem_cons_succ, Act.put, List.setIfInBounds_toArray, List.set_cons_zero, List.set_cons_succ]
              refine wpAny_ready (rs := [58]) (by kernel_rfl) (by simp) (AllReady.cons rfl (fun K hK => ?_) AllReady.nil)
              go_simp
              refine (awake_any T _).mono ?_
              rintro e W2 ⟨rfl, hb2⟩
              go_simp
              refine hK _ _ ?_
              clear hK
              conv => arg 7; simp only [List.getElem_toArray, List.getElem_cons_zero, List.getElem_cons_succ, Act.put, List.setIfInBounds_toArray, List.set_cons_zero, List.set_cons_succ]
              refine wpAny_take (i := 59) (v := ?_) rfl (by kernel_rfl) (by kernel_rfl) (by kernel_rfl) (fun _ _ _ h => h) (Or.inl ⟨by rfl, ?_⟩) ?_
              rotate_left
              · (intro w; go_simp; try with_reducible rfl)
              conv => arg 7; simp only [List.getElem_toArray, List.getElem_cons_zero, List.getElem_cons_succ, Act.put, List.setIfInBounds_toArray, List.set_cons_zero, List.set_cons_succ]
              refine wpAny_take (i := 60) (v := ?_) rfl (by kernel_rfl) (by kernel_rfl) (by kernel_rfl) (fun _ _ _ h => h) (Or.inl ⟨by rfl, ?_⟩) ?_
              rotate_left
              · (intro w; go_simp; try with_reducible rfl)
              conv => arg 7; simp only [List.getElem_toArray, List.getElem_cons_zero, List.getElem_cons_succ, Act.put, List.setIfInBounds_toArray, List.set_cons_zero, List.set_cons_succ]
              refine wpAny_done (by kernel_rfl) ?_ _
              go_wp2_with fail
              go_meet
              exact ⟨rfl, h1.below.trans (hb2.mono h1.size)⟩
    case rest =>
      obtain ⟨rfl, hbw⟩ := hcut
      have HBW := Lib.hid hbw
      clear hbw H14
      go_wp2_with fail
      go_ret
      exact ⟨rfl, HBW.out⟩
end Go.Proofs.Ytlodklmcamanpaa
