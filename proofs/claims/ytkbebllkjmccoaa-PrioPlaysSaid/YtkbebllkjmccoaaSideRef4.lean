/- The document's own side of a book: Push. Conditions: it lies in memory; good numbers. -/
import Derived.Test.YtkbebllkjmccoaaSideRef3
import Derived.Deep.RegionHeld3
namespace Go.Proofs.Ytkbebllkjmccoaa
open Go.RowKit Go.WideShapes

/-- How far it is. -/
def pushAt (up : Bool) (o : OrdV) (L M : Ords) (inn : Bool) (k : Nat) : Prop := M.length = k + (if inn then 1 else 0) ∧ M ++ (if inn then L.drop k else insQ up o (L.drop k)) = insQ up o L
/-- .. behind the question. -/
def pushMid (up : Bool) (o x : OrdV) (L M : Ords) (inn : Bool) (k : Nat) : Prop := M.length = k + (if inn then 1 else 0) ∧ M ++ (x :: (if inn then L.drop (k + 1) else insQ up o (L.drop (k + 1)))) = insQ up o L
theorem pushMid_next {up : Bool} {o x : OrdV} {L M : Ords} {inn : Bool} {k : Nat} (h : pushMid up o x L M inn k) : pushAt up o L (M ++ [x]) inn (k + 1) :=
  ⟨by rw [List.length_append, h.1]; simp only [List.length_cons, List.length_nil]; omega, by rw [List.append_assoc]; exact h.2⟩
section
variable {up : Bool} {o : OrdV} {L M : Ords} {k : Nat}
theorem push_in (hk : k < L.length) (h : pushAt up o L M true k) : pushMid up o L[k] L M true k := by
  refine ⟨h.1, ?_⟩
  have := h.2
  simp only [if_true] at this ⊢
  rw [List.drop_eq_getElem_cons hk] at this
  exact this
theorem push_yes (hk : k < L.length) (h : pushAt up o L M false k) (ha : aheadO up o L[k] = true) : pushMid up o L[k] L (M ++ [o]) true k := by
  refine ⟨by rw [List.length_append, h.1]; simp, ?_⟩
  have := h.2
  simp only [Bool.false_eq_true, if_false] at this
  rw [List.drop_eq_getElem_cons hk] at this
  simp only [insQ, ha, if_true] at this
  simp only [if_true, List.append_assoc, List.cons_append, List.nil_append]
  exact this
theorem push_no (hk : k < L.length) (h : pushAt up o L M false k) (ha : aheadO up o L[k] = false) : pushMid up o L[k] L M false k := by
  refine ⟨h.1, ?_⟩
  have := h.2
  simp only [Bool.false_eq_true, if_false] at this ⊢
  rw [List.drop_eq_getElem_cons hk] at this
  simp only [insQ, ha, Bool.false_eq_true, if_false] at this
  exact this
end

set_option maxRecDepth 100000 in
set_option maxHeartbeats 16000000 in
theorem rpush_any {F0 : Nat → Prop} {w0 w : World} {b off : Nat} {C : Array Value} {ts : TypeId} {up : Bool} {s : Value} {L : Ords} {R : HP} [hR : Stable R] (o : OrdV) (h : Turns F0 w0 w (SideHP b C ts s L R)) (hu : C[off]? = some (.bool up)) (hs : C[off + 1]? = some s) (hl : L.length ≤ 100000) :
    Calls Try.prog 20 #[.pointer (some ⟨b, off, none⟩), o.val] w fun e w' => e = .returned (.tuple #[]) ∧ ∃ s', Turns F0 w0 w' (SideHP b (C.setIfInBounds (off + 1) s') ts s' (insQ up o L) R) := by
  have hrow := h.swap.rowN
  obtain ⟨A, cap, rfl⟩ := rowN_form hrow
  obtain ⟨o1, o2, o3, o4, o5⟩ := o
  obtain ⟨bo, hbo, h1⟩ := h.local5 #[.int .i64 o1, .int .i64 o2, .bool o3, .int .u64 o4, .int .u64 o5] 28
  obtain ⟨n, hn⟩ : ∃ n, L.length = n := ⟨_, rfl⟩
  have h3 := (h1.add (Below.refl _ _) (RowN.none _ 28 5) (fun _ h => h.elim)).flip4
  rw [hn] at h3
  have H3 := Lib.hid h3
  have HU := Lib.hid hu; have HS := Lib.hid hs; have HN := Lib.hid hn
  rw [hn] at hl hs
  clear h h1 h3 hu hrow hn
  simp only [OrdV.val]
  have HS := Lib.hid hs
  clear hs
  go_enter Try.func20, Try.ntmps20
  go_upto_block 0 with fail
  rw [← hbo]
  clear hbo
  generalize w.alloc (.cells #[.int .i64 o1, .int .i64 o2, .bool o3, .int .u64 o4, .int .u64 o5] 28) = w1 at H3 ⊢
  go_cut [4, 5] (fun o i wx => ∃ M inn Ao co k, o = .slice Ao k co ∧ i = .bool inn ∧ M.length = k ∧ k ≤ n + 1 ∧ M ++ (if inn then [] else [⟨o1, o2, o3, o4, o5⟩]) = insQ up ⟨o1, o2, o3, o4, o5⟩ L ∧ Turns F0 w0 wx (star (Blk b C ts) (star (RowN 28 5 (.slice A n cap) n (cellsO L)) (star (RowN 28 5 (.slice Ao k co) k (cellsO M)) (star (Blk bo #[.int .i64 o1, .int .i64 o2, .bool o3, .int .u64 o4, .int .u64 o5] 28) R)))))
  case first =>
    go_wp2_with fail
    go_loopw [4, 5, 6] (fun o i jj wr => ∃ M inn Ao co j m, o = .slice Ao m co ∧ i = .bool inn ∧ jj = .int .i64 (j : Nat) ∧ M.length = m ∧ j ≤ n ∧ pushAt up ⟨o1, o2, o3, o4, o5⟩ L M inn j ∧ Turns F0 w0 wr (star (Blk b C ts) (star (RowN 28 5 (.slice A n cap) n (cellsO L)) (star (RowN 28 5 (.slice Ao m co) m (cellsO M)) (star (Blk bo #[.int .i64 o1, .int .i64 o2, .bool o3, .int .u64 o4, .int .u64 o5] 28) R))))) (fun _ _ i _ => n - (intOf i).toNat)
    case atStart => exact ⟨[], false, none, 0, 0, 0, rfl, rfl, rfl, rfl, by omega, ⟨rfl, rfl⟩, H3.out⟩
    case round =>
      obtain ⟨M, inn, Ao, co, j, m, rfl, rfl, rfl, hM, hj, hpa, hst⟩ := hrel
      clear H3
      by_cases hgo : j < n
      · have hjl : j < L.length := by rw [HN.out]; exact hgo
        obtain ⟨g, rfl, _, _⟩ := row_ord hst.swap.rowN hjl
        obtain ⟨⟨x1, x2, x3, x4, x5⟩, hx⟩ : ∃ x, L[j] = x := ⟨_, rfl⟩
        obtain ⟨av, hav⟩ : ∃ v, aheadO up ⟨o1, o2, o3, o4, o5⟩ L[j] = v := ⟨_, rfl⟩
        have fact : ∀ w' : World, Turns F0 w0 w' (star (Blk b C ts) (star (RowN 28 5 (.slice (some ⟨g, 0, none⟩) n cap) n (cellsO L)) (star (RowN 28 5 (.slice Ao m co) m (cellsO M)) (star (Blk bo #[.int .i64 o1, .int .i64 o2, .bool o3, .int .u64 o4, .int .u64 o5] 28) R)))) → (w'.cell? ⟨b, off, none⟩ = some (.bool up) ∧ w'.cell? ⟨b, off + 1, none⟩ = some (.slice (some ⟨g, 0, none⟩) n cap) ∧ w'.cell? ⟨bo, 0, none⟩ = some (.int .i64 o1) ∧ w'.cell? ⟨bo, 1, none⟩ = some (.int .i64 o2) ∧ w'.cell? ⟨bo, 2, none⟩ = some (.bool o3) ∧ w'.cell? ⟨bo, 3, none⟩ = some (.int .u64 o4) ∧ w'.cell? ⟨bo, 4, none⟩ = some (.int .u64 o5) ∧ w'.cell? ⟨g, j * 5, none⟩ = some (.int .i64 x1) ∧ w'.cell? ⟨g, j * 5 + 1, none⟩ = some (.int .i64 x2) ∧ w'.cell? ⟨g, j * 5 + 2, none⟩ = some (.bool x3) ∧ w'.cell? ⟨g, j * 5 + 3, none⟩ = some (.int .u64 x4) ∧ w'.cell? ⟨g, j * 5 + 4, none⟩ = some (.int .u64 x5)) := fun w' h => by
          obtain ⟨_, _, qb, _⟩ := h.blk
          obtain ⟨_, _, qo, _⟩ := h.snd.third.blk
          obtain ⟨g', e, _, d0, d1, d2, d3, d4⟩ := row_ord h.swap.rowN hjl
          injection e with e
          injection e with e _ _
          subst e
          rw [hx] at d0 d1 d2 d3 d4
          exact ⟨qb off _ HU.out, qb (off + 1) _ HS.out, qo 0 _ rfl, qo 1 _ rfl, qo 2 _ rfl, qo 3 _ rfl, qo 4 _ rfl, d0, d1, d2, d3, d4⟩
        have HF := Lib.hid fact
        obtain ⟨t0, t1, t2, t3, t4, t5, t6, t7, t8, t9, t10, t11⟩ := fact _ hst
        have hm2 : m = j + (if inn then 1 else 0) := by rw [← hM]; exact hpa.1
        have hjn : (j : Int) < (n : Int) := by omega
        have hj0 : (0 : Int) ≤ (j : Int) := by omega
        have HPA := Lib.hid hpa; have HST := Lib.hid hst; have HMM := Lib.hid hM; have HX := Lib.hid hx; have HAV := Lib.hid hav; have HM2 := Lib.hid hm2
        clear fact hpa hst hM hx hav hm2
        go_upto_region 6 with fail
        go_cut [32] (fun c wx => c = .bool (!inn && av) ∧ Turns F0 w0 wx (star (Blk b C ts) (star (RowN 28 5 (.slice (some ⟨g, 0, none⟩) n cap) n (cellsO L)) (star (RowN 28 5 (.slice Ao m co) m (cellsO M)) (star (Blk bo #[.int .i64 o1, .int .i64 o2, .bool o3, .int .u64 o4, .int .u64 o5] 28) R)))))
        case first =>
          rcases inn with _ | _
          · have K := rahead_any up ⟨o1, o2, o3, o4, o5⟩ ⟨x1, x2, x3, x4, x5⟩ wr.drew
            have hav2 := HAV.out
            rw [HX.out] at hav2
            rw [hav2] at K
            unfold OrdV.val at K
            have HK := Lib.hid K
            have e0 := HF.out _ HST.out.drew
            clear K hav2 t0 t1 t2 t3 t4 t5 t6 t7 t8 t9 t10 t11
            go_region_held3 (fun w' : World => (w'.cell? ⟨b, off, none⟩ = some (.bool up) ∧ w'.cell? ⟨b, off + 1, none⟩ = some (.slice (some ⟨g, 0, none⟩) n cap) ∧ w'.cell? ⟨bo, 0, none⟩ = some (.int .i64 o1) ∧ w'.cell? ⟨bo, 1, none⟩ = some (.int .i64 o2) ∧ w'.cell? ⟨bo, 2, none⟩ = some (.bool o3) ∧ w'.cell? ⟨bo, 3, none⟩ = some (.int .u64 o4) ∧ w'.cell? ⟨bo, 4, none⟩ = some (.int .u64 o5) ∧ w'.cell? ⟨g, j * 5, none⟩ = some (.int .i64 x1) ∧ w'.cell? ⟨g, j * 5 + 1, none⟩ = some (.int .i64 x2) ∧ w'.cell? ⟨g, j * 5 + 2, none⟩ = some (.bool x3) ∧ w'.cell? ⟨g, j * 5 + 3, none⟩ = some (.int .u64 x4) ∧ w'.cell? ⟨g, j * 5 + 4, none⟩ = some (.int .u64 x5))) (first | exact e1 | exact e0) (first
              | (go_at_call 30; refine HK.out.mono ?_; rintro e w10 ⟨rfl, hb10⟩; have e1 := HF.out _ (HST.out.drew.more hb10); have H10 := Lib.hid (HST.out.drew.more hb10); clear hb10))
            all_goals
              go_wp2_with fail
              go_meet
              exact ⟨by first | rfl | simp, H10.out⟩
          · go_quiet (fail)
            go_wp2_with fail
            go_meet
            exact ⟨by first | rfl | simp, HST.out.more (below_drewN (Below.refl _ _) _)⟩
        case rest =>
          obtain ⟨rfl, hst⟩ := hcut
          obtain ⟨w5, rfl⟩ : ∃ w5 : World, w5 = wc := ⟨_, rfl⟩
          have HST := Lib.hid hst
          obtain ⟨t0, t1, t2, t3, t4, t5, t6, t7, t8, t9, t10, t11⟩ := HF.out _ hst
          obtain ⟨ii, hi, hz0, hz1, hz2⟩ := info_parts ord_info
          clear hst
          go_upto_if 32 with fail
          go_cut [4, 5, 32] (fun o i _ wx => ∃ M inn Ao co m, o = .slice Ao m co ∧ i = .bool inn ∧ M.length = m ∧ m ≤ j + 1 ∧ pushMid up ⟨o1, o2, o3, o4, o5⟩ ⟨x1, x2, x3, x4, x5⟩ L M inn j ∧ Turns F0 w0 wx (star (Blk b C ts) (star (RowN 28 5 (.slice (some ⟨g, 0, none⟩) n cap) n (cellsO L)) (star (RowN 28 5 (.slice Ao m co) m (cellsO M)) (star (Blk bo #[.int .i64 o1, .int .i64 o2, .bool o3, .int .u64 o4, .int .u64 o5] 28) R)))))
          case first =>
            rcases inn with _ | _
            · rcases av with _ | _
              · have hmid := push_no hjl HPA.out HAV.out
                rw [HX.out] at hmid
                have HMID := Lib.hid hmid
                have hm0 : m = j := by have := HM2.out; simpa using this
                have HM0 := Lib.hid hm0
                clear hmid hm0
                go_wp2_with fail
                go_meet
                exact ⟨M, false, Ao, co, m, rfl, rfl, HMM.out, by rw [HM0.out]; omega, HMID.out, HST.out⟩
              · have hmid := push_yes hjl HPA.out HAV.out
                rw [HX.out] at hmid
                have HMID := Lib.hid hmid
                have hm0 : m = j := by have := HM2.out; simpa using this
                have c1 : m + 1 ≤ maxLen := by unfold maxLen; omega
                have c2 : (m + 1) * 40 ≤ 140737488355328 := by omega
                have HM0 := Lib.hid hm0
                clear hmid hm0
                go_wp2_with (at_builtin; go_loud (refine wpList_append_here rfl (.tmp 33) (.tmp 35) 35 rfl 0 28 ii (.agg #[.int .i64 0, .int .i64 0, .bool false, .int .u64 0, .int .u64 0]) 5 40 Try.underlying35 hi hz0 hz1 hz2 rfl (by decide) _ m (cellsO M) rfl ((HST.out.third.rowN).alloc _) ⟨w5.heap.size, 0, none⟩ 1 1 (cellsO [⟨o1, o2, o3, o4, o5⟩]) rfl rfl (ord_new w5 ⟨o1, o2, o3, o4, o5⟩ _) (cellsO_one _) c1 c2 (Nat.zero_le _) ?_); intro v' w8 hown hgr hfr; have h9 := ((HST.out.alloc _).third.rowN_grow hown hgr hfr).third'; obtain ⟨gr, cr', rfl⟩ := ownN_shape hown (Nat.succ_ne_zero _); have H9 := Lib.hid h9; clear h9 hown hgr hfr)
                go_meet
                exact ⟨M ++ [⟨o1, o2, o3, o4, o5⟩], true, some ⟨gr, 0, none⟩, cr', m + 1, rfl, rfl, by rw [List.length_append, HMM.out]; rfl, by rw [HM0.out]; omega, HMID.out, by rw [cellsO_append]; exact H9.out⟩
            · have hmid := push_in hjl HPA.out
              rw [HX.out] at hmid
              have HMID := Lib.hid hmid
              have hm0 : m = j + 1 := by have := HM2.out; simpa using this
              have HM0 := Lib.hid hm0
              clear hmid hm0
              simp only [Bool.not_true, Bool.false_and]
              go_wp2_with fail
              go_meet
              exact ⟨M, true, Ao, co, m, rfl, rfl, HMM.out, by rw [HM0.out]; omega, HMID.out, HST.out⟩
          case rest =>
            obtain ⟨M2, inn2, Ao2, co2, m2, rfl, rfl, hM2, hm2j, hmid, hst⟩ := hcut
            obtain ⟨w6, rfl⟩ : ∃ w6 : World, w6 = wc := ⟨_, rfl⟩
            have HMID := Lib.hid hmid; have HST2 := Lib.hid hst; have HM2L := Lib.hid hM2
            have c1 : m2 + 1 ≤ maxLen := by unfold maxLen; omega
            have c2 : (m2 + 1) * 40 ≤ 140737488355328 := by omega
            have HF2 : Hid (w6.cell? ⟨b, off + 1, none⟩ = some (.slice (some ⟨g, 0, none⟩) n cap) ∧ w6.cell? ⟨g, j * 5, none⟩ = some (.int .i64 x1) ∧ w6.cell? ⟨g, j * 5 + 1, none⟩ = some (.int .i64 x2) ∧ w6.cell? ⟨g, j * 5 + 2, none⟩ = some (.bool x3) ∧ w6.cell? ⟨g, j * 5 + 3, none⟩ = some (.int .u64 x4) ∧ w6.cell? ⟨g, j * 5 + 4, none⟩ = some (.int .u64 x5)) := Lib.hid (by
              obtain ⟨_, _, qb, _⟩ := hst.blk
              obtain ⟨g', e, _, d0, d1, d2, d3, d4⟩ := row_ord hst.swap.rowN hjl
              injection e with e
              injection e with e _ _
              subst e
              rw [HX.out] at d0 d1 d2 d3 d4
              exact ⟨qb (off + 1) _ HS.out, d0, d1, d2, d3, d4⟩)
            clear hmid hst hM2 t0 t1 t2 t3 t4 t5 t6 t7 t8 t9 t10 t11
            obtain ⟨t1, t7, t8, t9, t10, t11⟩ := HF2.out
            go_wp2_with (at_builtin; go_loud (refine wpList_append_here rfl (.tmp 37) (.tmp 45) 35 rfl 0 28 ii (.agg #[.int .i64 0, .int .i64 0, .bool false, .int .u64 0, .int .u64 0]) 5 40 Try.underlying35 hi hz0 hz1 hz2 rfl (by decide) _ m2 (cellsO M2) rfl ((HST2.out.third.rowN).alloc _) ⟨w6.heap.size, 0, none⟩ 1 1 (cellsO [⟨x1, x2, x3, x4, x5⟩]) rfl rfl (ord_new w6 ⟨x1, x2, x3, x4, x5⟩ _) (cellsO_one _) c1 c2 (Nat.zero_le _) ?_); intro v' w8 hown hgr hfr; have h9 := ((HST2.out.alloc _).third.rowN_grow hown hgr hfr).third'; obtain ⟨gr, cr', rfl⟩ := ownN_shape hown (Nat.succ_ne_zero _); have H9 := Lib.hid h9; clear h9 hown hgr hfr)
            go_roundw
            case rel => exact ⟨M2 ++ [⟨x1, x2, x3, x4, x5⟩], inn2, some ⟨gr, 0, none⟩, cr', j + 1, m2 + 1, rfl, rfl, by go_num, by rw [List.length_append, HM2L.out]; rfl, by omega, pushMid_next HMID.out, by rw [cellsO_append]; exact H9.out⟩
            case measure => simp [intOf]; omega
      · obtain rfl : j = n := by omega
        have hd : L.drop j = [] := List.drop_of_length_le (by rw [HN.out]; exact Nat.le_refl _)
        have hfin : M ++ (if inn then [] else [⟨o1, o2, o3, o4, o5⟩]) = insQ up ⟨o1, o2, o3, o4, o5⟩ L := by
          have := hpa.2
          rw [hd] at this
          exact this
        have hm2 : m ≤ j + 1 := by rw [← hM, hpa.1]; split <;> omega
        have HFI := Lib.hid hfin; have HMM := Lib.hid hM; have HST := Lib.hid hst; have HM2 := Lib.hid hm2
        obtain ⟨_, _, qb, _⟩ := hst.blk
        have t1 := qb (off + 1) _ HS.out
        clear hpa hst hM hd hfin hm2 qb hgo
        go_wp2_with fail
        go_meet
        exact ⟨M, inn, Ao, co, m, rfl, rfl, HMM.out, HM2.out, HFI.out, HST.out⟩
  case rest =>
    obtain ⟨M, inn, Ao, co, m, rfl, rfl, hM, hm, hfin, hst⟩ := hcut
    obtain ⟨w5, rfl⟩ : ∃ w5 : World, w5 = wc := ⟨_, rfl⟩
    have HST := Lib.hid hst; have HFI := Lib.hid hfin; have HMM := Lib.hid hM
    obtain ⟨_, _, qo, _⟩ := hst.snd.third.blk
    have t2 := qo 0 (.int .i64 o1) rfl
    have t3 := qo 1 (.int .i64 o2) rfl
    have t4 := qo 2 (.bool o3) rfl
    have t5 := qo 3 (.int .u64 o4) rfl
    have t6 := qo 4 (.int .u64 o5) rfl
    obtain ⟨ii, hi, hz0, hz1, hz2⟩ := info_parts ord_info
    have c1 : m + 1 ≤ maxLen := by unfold maxLen; omega
    have c2 : (m + 1) * 40 ≤ 140737488355328 := by omega
    clear hst hfin hM qo H3
    rcases inn with _ | _
    · go_wp2_with (at_builtin; go_loud (refine wpList_append_here rfl (.tmp 49) (.tmp 51) 35 rfl 0 28 ii (.agg #[.int .i64 0, .int .i64 0, .bool false, .int .u64 0, .int .u64 0]) 5 40 Try.underlying35 hi hz0 hz1 hz2 rfl (by decide) _ m (cellsO M) rfl ((HST.out.third.rowN).alloc _) ⟨w5.heap.size, 0, none⟩ 1 1 (cellsO [⟨o1, o2, o3, o4, o5⟩]) rfl rfl (ord_new w5 ⟨o1, o2, o3, o4, o5⟩ _) (cellsO_one _) c1 c2 (Nat.zero_le _) ?_); intro v' w8 hown hgr hfr; have h9 := ((HST.out.alloc _).third.rowN_grow hown hgr hfr).third'; obtain ⟨gr, cr', rfl⟩ := ownN_shape hown (Nat.succ_ne_zero _); obtain ⟨_, _, qb, zb⟩ := h9.blk; have cb := qb (off + 1) _ HS.out; have zb1 := zb (off + 1); have H9 := Lib.hid h9; clear h9 hown hgr hfr qb zb)
      go_end0
      have hq := HFI.out
      simp only [Bool.false_eq_true, if_false] at hq
      have hlen : (insQ up ⟨o1, o2, o3, o4, o5⟩ L).length = m + 1 := by rw [← hq, List.length_append, HMM.out]; rfl
      refine ⟨rfl, .slice (some ⟨gr, 0, none⟩) (m + 1) cr', ?_⟩
      have h10 := ((H9.out.blk_set (off + 1) (.slice (some ⟨gr, 0, none⟩) (m + 1) cr')).swap.snd).third.snd
      unfold SideHP
      rw [hlen, ← hq, cellsO_append]
      exact h10
    · obtain ⟨_, _, qb, zb⟩ := HST.out.blk
      have cb := qb (off + 1) _ HS.out
      have zb1 := zb (off + 1)
      clear qb zb
      go_wp2_with fail
      go_end0
      have hq := HFI.out
      simp only [if_true, List.append_nil] at hq
      have hlen : (insQ up ⟨o1, o2, o3, o4, o5⟩ L).length = m := by rw [← hq, HMM.out]
      refine ⟨rfl, .slice Ao m co, ?_⟩
      have h10 := ((HST.out.blk_set (off + 1) (.slice Ao m co)).swap.snd).third.snd
      unfold SideHP
      rw [hlen, ← hq]
      exact h10
end Go.Proofs.Ytkbebllkjmccoaa
