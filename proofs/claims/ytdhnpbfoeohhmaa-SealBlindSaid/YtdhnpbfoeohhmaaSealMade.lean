/- The vault's calls keep their contracts: Open, and all of them together. Conditions: a vault that New made, with at most a million ciphers and a million shares. -/
import Derived.Test.YtdhnpbfoeohhmaaSealShare
namespace Go.Proofs.Ytdhnpbfoeohhmaa
open Go.RowKit Go.WideShapes

theorem texts_getD {M : List TextV} {j : Nat} (h : j < M.length) : (texts M).getD (cip j - 1).toNat (0, []) = (M[j].1, M[j].2.1) := by
  have e : (cip j - 1).toNat = j := by unfold cip; omega
  rw [e, List.getD_eq_getElem?_getD, List.getElem?_eq_getElem (by rw [texts_length]; exact h)]
  simp [texts]

section
variable {w : World} {b : Nat} {n : Int} {s : Value} {M : List TextV} {L : List (Int × Int)} {F : Nat → Prop}
set_option maxRecDepth 100000 in
set_option maxHeartbeats 8000000 in
theorem vlt_open {n : Int} (label c : Int) (h : VltAt b (max n 1) s M L w F) (hT : M.length ≤ 1000000) (hlong : ∀ p ∈ texts M, p.2.length ≤ 140737488355328) :
    Calls Try.prog 11 #[.pointer (some ⟨b, 0, none⟩), .int .i64 label, .int .i64 c] w fun e w' => ∃ x, e = .returned (.tuple #[x, .bool (openOk n (texts M) L label c)]) ∧ Turns F w w' (star (R8 x (openRow n (texts M) L label c)) (VltAt b (max n 1) s M L)) := by
  have h0 := Turns.begin h
  have HI := Lib.hid h0
  obtain ⟨hb, c0, c1, f1, hs⟩ := VltAt.facts h0.pad
  obtain ⟨q, hq⟩ : ∃ q, isC (texts M) c = q := ⟨_, rfl⟩
  rcases q with _ | _
  · have K := Lib.hid (vat_no c c1 hs hq)
    have hok : openOk n (texts M) L label c = false := by simp [openOk, hq]
    have hrow : openRow n (texts M) L label c = [] := by rw [openRow, hok]; rfl
    rw [hok, hrow]
    clear h h0 hs c0 c1 f1 hq hok hrow hlong
    go_enter Try.func11, Try.ntmps11
    go_wp2_with fail
    refine K.out.mono ?_
    rintro e w2 ⟨rfl, rfl⟩
    go_wp2_with fail
    go_quiet (fail)
    go_wp2_with fail
    go_ret2
    exact ⟨_, rfl, HI.out.add (below_drewN (Below.refl _ _) _) (R8.nil _) (fun _ h => h.elim)⟩
  · obtain ⟨j, hj, rfl⟩ := isC_cip hq
    obtain ⟨g, cap, rfl, hg, t0, t1, t2⟩ := textM_cells hs hj
    have K := Lib.hid (vat_yes j hT c1 hj)
    have hbk := blkOf_at hj
    have hgd := texts_getD hj
    have hlr : (M[j].2.1).length ≤ 140737488355328 := hlong _ (by unfold texts; exact List.mem_map.2 ⟨M[j], List.getElem_mem hj, rfl⟩ : (M[j].1, M[j].2.1) ∈ texts M)
    obtain ⟨na, hna⟩ : ∃ k, (allOf L (cip j)).length = k := ⟨_, rfl⟩
    have hok : openOk n (texts M) L label (cip j) = (decide (max n 1 ≤ (na : Int)) && decide (M[j].1 = label)) := by rw [openOk, hq, Bool.true_and, hgd, hna]
    have hrow : openRow n (texts M) L label (cip j) = if openOk n (texts M) L label (cip j) then M[j].2.1 else [] := by rw [openRow, hgd]
    rw [hrow, hok]
    obtain ⟨o, hmo⟩ : ∃ o, M[j].2.2 = o := ⟨_, rfl⟩
    obtain ⟨lab, hlab⟩ : ∃ l, M[j].1 = l := ⟨_, rfl⟩
    obtain ⟨tx, htx⟩ : ∃ l, M[j].2.1 = l := ⟨_, rfl⟩
    rw [hmo] at t2 hbk
    rw [hlab] at t0 ⊢
    rw [htx] at t1 hlr ⊢
    obtain ⟨m, hm⟩ : ∃ m, max n 1 = m := ⟨_, rfl⟩
    rw [hm] at c0 HI ⊢
    have hlen : ∀ q, (Builtin.len_ #[55] 3 #[.map o]).run Try.prog (w.drewN q) = .ok (.int .i64 na) (w.drewN q) := fun q => by
      rcases o with _ | kb
      · have he : allOf L (cip j) = [] := allOf_is List.Pairwise.nil fun x => ⟨fun h => (by cases h), fun h => absurd h (h0.last.setn hbk x)⟩
        rw [he] at hna
        subst hna
        exact Maps.len_nil Try.underlying55 _
      · obtain ⟨f, hown, hf⟩ := h0.last.setv hbk
        rw [hna] at hown
        exact (hown.keep (w' := w.drewN q) rfl).len Try.underlying55 _
    obtain ⟨x, hx⟩ : ∃ x : ByteArray, x = ⟨tx.toArray⟩ := ⟨_, rfl⟩
    rw [← hx] at t1
    have hxs : x.size = tx.length := by rw [hx]; show tx.toArray.size = _; rw [List.size_toArray]
    have HXS := Lib.hid hxs; have HX := Lib.hid hx; have HLR := Lib.hid hlr
    have hbw : b < w.heap.size := hb
    clear h h0 hs c1 f1 hq hok hrow hlong hbk hgd hna hmo hlab htx hm hxs hx hlr hj hT
    have b1 : decide ((na : Int) < m) = !decide (m ≤ (na : Int)) := by
      by_cases h : m ≤ (na : Int)
      · rw [decide_eq_true h, decide_eq_false (by omega)]; rfl
      · rw [decide_eq_false h, decide_eq_true (by omega)]; rfl
    obtain ⟨p, hp⟩ : ∃ p, decide (m ≤ (na : Int)) = p := ⟨_, rfl⟩
    obtain ⟨r, hr⟩ : ∃ r, decide (lab = label) = r := ⟨_, rfl⟩
    have b2 : (lab != label) = !r := by
      rw [← hr]
      by_cases h : lab = label
      · simp [h]
      · simp [h]
    rw [hp] at b1
    rw [hp, hr]
    generalize cip j = c at K ⊢
    clear hp hr
    rcases p with _ | _
    · go_enter Try.func11, Try.ntmps11
      go_wp2_with fail
      refine K.out.mono ?_
      rintro e w2 ⟨rfl, rfl⟩
      go_wp2_with fail
      go_quiet (fail)
      go_wp2_with fail
      go_ret2
      exact ⟨_, rfl, HI.out.add (below_drewN (Below.refl _ _) _) (R8.nil _) (fun _ h => h.elim)⟩
    · rcases r with _ | _
      · go_enter Try.func11, Try.ntmps11
        go_wp2_with fail
        refine K.out.mono ?_
        rintro e w2 ⟨rfl, rfl⟩
        go_wp2_with fail
        go_quiet (fail)
        go_wp2_with fail
        go_ret2
        exact ⟨_, rfl, HI.out.add (below_drewN (Below.refl _ _) _) (R8.nil _) (fun _ h => h.elim)⟩
      · obtain ⟨i0, hi, hz0, hz1, hz2⟩ := info_parts u8_info
        go_enter Try.func11, Try.ntmps11
        go_wp2_with fail
        refine K.out.mono ?_
        rintro e w2 ⟨rfl, rfl⟩
        go_wp2_with fail
        go_quiet (fail)
        go_wp2_with (at_builtin; refine Lib.wpList_append_own_string (w2.drewN nq) rfl (.const (.slice none 0 0)) (.tmp 37) 23 9 rfl (w2.drewN nq).heap.size 5 i0 Try.underlying23 Try.underlying9 hi hz0 hz1 hz2 (.slice none 0 0) 0 [] rfl (World.ownsRow_nil _ _ _ _) x rfl (by have := HXS.out; have := HLR.out; unfold maxLen; omega) (by have := HXS.out; have := HLR.out; omega) (by first | exact Nat.le_refl _ | simp) ?_; intro v' w' hown hgr _)
        go_ret2
        have e1 : (0 + x.size : Nat) = tx.length := by rw [Nat.zero_add]; exact HXS.out
        have e2 : ([] ++ Lib.strCells x : List Value) = cells8 tx := by rw [HX.out]; rfl
        rw [e1, e2] at hown
        obtain ⟨F8, hr8, hF8⟩ := R8.of hown
        refine ⟨_, rfl, HI.out.add ((below_drewN (Below.refl _ _) nq).trans ⟨hgr.os, hgr.tape, hgr.output, hgr.size, fun k hk => hgr.block k hk (fun h => by cases h)⟩) hr8 fun k hk => ?_⟩
        have hk2 := hF8 k hk
        rcases hown.2 with ⟨rfl, _⟩ | ⟨g2, _, _, rfl, hb2, _⟩
        · cases hk2
        · injection hk2 with hk2; rw [← hk2]; exact hb2
end

noncomputable def sealApi : SealApi where
  IsV := IsVlt
  stable := IsVlt.stable
  lim := 140737488355328
  lim_ge := by decide
  ptr := fun ⟨_, _, _, ⟨h, _⟩, _⟩ => ⟨_, h⟩
  new := vlt_new
  seal_ := fun label A len cap t ⟨b, s, M, ⟨h1, h2, h3⟩, h⟩ hT hl ht hlim hc hA hlie => by
    subst h1; subst h2
    rw [texts_length] at hT ⊢
    refine (vlt_seal label A len cap t h hT ht hA hc hlie).mono ?_
    rintro e w' ⟨he, s', h'⟩
    refine ⟨he, h'.imp fun F hp => ⟨b, s', _, ⟨rfl, (texts_snoc M label t).symm, fun p hp => ?_⟩, hp⟩⟩
    rcases List.mem_append.1 hp with hp | hp
    · exact h3 p hp
    · rw [List.mem_singleton] at hp
      subst hp
      show t.length ≤ _
      omega
  share := fun who c ⟨b, s, M, ⟨h1, h2, h3⟩, h⟩ hT hL _ hw _ => by
    subst h1; subst h2
    rw [texts_length] at hT
    refine (vlt_share who c h hT hL hw).mono ?_
    rintro e w' ⟨he, M', hM, h'⟩
    exact ⟨he, h'.imp fun F hp => ⟨b, s, M', ⟨rfl, hM.symm, h3⟩, hp⟩⟩
  shared := fun who c ⟨b, s, M, ⟨h1, h2, h3⟩, h⟩ hT _ ho hw _ => by
    subst h1; subst h2
    rw [texts_length] at hT
    exact vlt_shared who c h hT ho hw
  shares := fun c ⟨b, s, M, ⟨h1, h2, h3⟩, h⟩ hT hL ho _ => by
    subst h1; subst h2
    rw [texts_length] at hT
    refine (vlt_shares c h hT hL ho).mono ?_
    rintro e w' ⟨x, he, h'⟩
    exact ⟨x, he, h'.imp fun F hp => star_mono (fun F hp => ⟨b, s, M, ⟨rfl, rfl, h3⟩, hp⟩) hp⟩
  open_ := fun label c ⟨b, s, M, ⟨h1, h2, h3⟩, h⟩ hT _ _ _ _ => by
    subst h1; subst h2
    rw [texts_length] at hT
    refine (vlt_open label c h hT h3).mono ?_
    rintro e w' ⟨x, he, h'⟩
    exact ⟨x, he, h'.imp fun F hp => star_mono (fun F hp => ⟨b, s, M, ⟨rfl, rfl, h3⟩, hp⟩) hp⟩
  len := fun ⟨b, s, M, ⟨h1, h2, h3⟩, h⟩ hT => by
    subst h1; subst h2
    obtain ⟨hb, c0, c1, f1, hs⟩ := VltAt.facts (Turns.begin h).pad
    refine (vltlen_any c1 hs).mono ?_
    rintro e w' ⟨he, rfl⟩
    rw [texts_length]
    exact ⟨he, Below.refl _ _⟩
theorem sealApi_lim : 140737488351232 ≤ sealApi.lim := by show 140737488351232 ≤ 140737488355328; decide
end Go.Proofs.Ytdhnpbfoeohhmaa
