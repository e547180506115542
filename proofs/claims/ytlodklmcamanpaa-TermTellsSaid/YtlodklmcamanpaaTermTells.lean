/- TermTells answers true, and makes only new memory. Conditions: term's calls are as their contracts say; the rows and the numbers lie in memory. -/
import Derived.Test.YtlodklmcamanpaaTermRef
import Derived.Test.YtlodklmcamanpaaView
import Derived.Deep.CutBlock
import Derived.Deep.DeepCutAuto
import Derived.Deep.RegionHeld3
import Derived.IntWalk
namespace Go.Proofs.Ytlodklmcamanpaa
open Go.RowKit Go.WideShapes

section
variable {F0 : Nat → Prop} {w0 w : World} {v : Value} {L : List (List UInt8)} {R : HP}
theorem Turns.rdigest [hR : Stable R] (h : Turns F0 w0 w (star (IsRef v L) R)) (A : Option Addr) (n cap : Nat) (t : List UInt8) (hL : L.length ≤ 1000000) (ht : t.length = n) (hn : n ≤ 1073741824) (hc : n ≤ cap) (hA : A = none → cap = 0) (hl : Lie8 w (fun _ => False) A t) :
    Calls Try.prog 12 #[v, .slice A n cap] w fun e w' => e = .returned (.int .i64 (digOf L t)) ∧ Turns F0 w0 w' (star (IsRef v (digAdd L t)) R) := by
  refine (h.call (Q := fun e w' F => e = .returned (.int .i64 (digOf L t)) ∧ IsRef v (digAdd L t) w' F) (fun F hp => (rdigest_any A n cap t hp hL ht hn hc hA hl).mono ?_)).mono ?_
  · rintro e w' ⟨he, F', h1, h2, h3⟩
    exact ⟨F', ⟨he, h1⟩, h2, h3⟩
  · rintro e w' hs
    obtain ⟨F, ⟨A', B', ⟨he, hp⟩, r⟩, r2⟩ := hs
    exact ⟨he, F, ⟨A', B', hp, r⟩, r2⟩
/-- The cells of the document's arena. -/
theorem Turns.refcells {b : Nat} (h : Turns F0 w0 w (star (IsRef (.pointer (some ⟨b, 0, none⟩)) L) R)) :
    ∃ A cap, w.cell? ⟨b, 0, none⟩ = some (.slice A L.length cap) ∧ ∀ j (hj : j < L.length), ∃ g, A = some ⟨g, 0, none⟩ ∧ w.cell? ⟨g, j, none⟩ = some (.string ⟨L[j].toArray⟩) := by
  obtain ⟨F, ⟨X, Y, ⟨b', s, hb', hb, ho, _⟩, _⟩, _⟩ := h
  injection hb' with hb'; injection hb' with hb'; injection hb' with hb'; subst hb'
  rw [cellsS_length] at ho
  obtain ⟨A, cap, rfl⟩ := row_form ho
  refine ⟨A, cap, cell_of_one hb, fun j hj => ?_⟩
  obtain ⟨g, cap', e, hc⟩ := row_cell ho (j := j) (by rw [cellsS_length]; exact hj)
  injection e with e1 _ e2
  exact ⟨g, e1, by rw [hc, cellsS_at hj]⟩
end

set_option maxRecDepth 100000 in
set_option maxHeartbeats 16000000 in
theorem tells_some (T : TermApi) (A B : Option Addr) (cap capk : Nat) (rs : List RowV) (ks : List Int) (w : World) (hlen : rs.length ≤ 9223372036854775807) (hr : RowsAt w A rs)
    (hks : ks = [] ∨ ∃ b off : Nat, B = some ⟨b, off, none⟩ ∧ b < w.heap.size ∧ ∀ i (h : i < ks.length), w.cell? ⟨b, off + i, none⟩ = some (.int .i64 ks[i])) (hwf : ∀ x ∈ ks, -9223372036854775808 ≤ x ∧ x < 9223372036854775808) :
    Calls Try.prog 5 #[.slice A rs.length cap, .slice B ks.length capk] w fun e w' => e = .returned (.bool true) ∧ Below w.heap.size w w' := by
  obtain ⟨ln, hln⟩ : ∃ k, rs.length = k := ⟨_, rfl⟩
  obtain ⟨lk, hlk'⟩ : ∃ k, ks.length = k := ⟨_, rfl⟩
  rw [hln] at hlen ⊢
  rw [hlk']
  have HLN := Lib.hid hln; have HLK := Lib.hid hlk'; have HR := Lib.hid hr; have HKS := Lib.hid hks; have HWF := Lib.hid hwf
  clear hln hlk' hr hks hwf
  go_enter Try.func5, Try.ntmps5
  go_wp2_with fail
  refine (st_arena T (St.start w w (Below.refl _ _))).mono ?_
  rintro e w1 ⟨pa, rfl, h1⟩
  have h2 : St w (w1.alloc (.cells #[.slice none 0 0] 38)) (star (IsRef (.pointer (some ⟨w1.heap.size, 0, none⟩)) []) (star (T.IsA (.pointer (some pa)) []) nothing)) :=
    h1.add ((Below.refl _ _).alloc (Nat.le_refl _) _) (Box1.made w1 _ _) (fun k hk => by rw [hk]; exact Nat.le_refl _)
  have H2 := Lib.hid h2.swap
  clear h1 h2
  go_upto_block 0 with fail
  generalize w1.alloc (.cells #[.slice none 0 0] 38) = w2 at H2 ⊢
  generalize w1.heap.size = br at H2 ⊢
  go_wp2_with fail
  go_loopw [7] (fun i wr => ∃ (k : Nat) (L : List (List UInt8)), k ≤ ln ∧ k ≤ 40 ∧ i = .int .i64 k ∧ L.length ≤ k ∧ St w wr (star (T.IsA (.pointer (some pa)) L) (star (IsRef (.pointer (some ⟨br, 0, none⟩)) L) nothing))) (fun i _ => 40 - (intOf i).toNat)
  case atStart => exact ⟨0, [], by omega, by omega, rfl, by simp, H2.out⟩
  case round =>
    obtain ⟨k, L, hk, hk40, rfl, hLk, hst⟩ := hrel
    by_cases hgo : k < ln ∧ k < 40
    · obtain ⟨hk1, hk2⟩ := hgo
      have hkr : k < rs.length := by rw [HLN.out]; exact hk1
      obtain ⟨b, off, rfl, hbw, hcs⟩ : ∃ b off : Nat, A = some ⟨b, off, none⟩ ∧ b < w.heap.size ∧ ∀ i (h : i < rs.length), w.cell? ⟨b, off + i, none⟩ = some (.slice rs[i].A rs[i].t.length rs[i].cap) ∧ rs[i].ok w := by
        rcases HR.out with h | h
        · rw [h] at hkr; simp at hkr
        · exact h
      obtain ⟨hc0, hok⟩ := hcs k hkr
      generalize rs[k] = rv at hc0 hok
      obtain ⟨tA, tcap, t⟩ := rv
      obtain ⟨q1, q2, q3, q4⟩ := hok
      simp only at hc0 q1 q2 q3 q4
      have hcell := (hst.below.cell (p := ⟨b, off + k, none⟩) hbw).trans hc0
      have HC := Lib.hid hc0; have HQ3 := Lib.hid q3; have HQ4 := Lib.hid q4; have HST := Lib.hid hst
      clear hc0 q3 q4 hst hcs
      go_wp2_with fail
      · refine (awake_any T _).mono ?_
        rintro e w3 ⟨rfl, hb3⟩
        go_wp2
        go_ret
        exact ⟨rfl, HST.out.below.trans (hb3.mono HST.out.size)⟩
      · have ht : t.length ≤ 200 := by omega
        have hL2 : (digAdd L t).length ≤ k + 1 := by have := digAdd_length L t; omega
        have K1 := HST.out.drew.digest tA t.length tcap t (by omega) rfl (by omega) q1 HQ3.out (HQ4.out.below (HST.out.below.drew))
        have HK1 := Lib.hid K1
        clear K1
        go_cut [55] (fun s55 wx => s55 = .bool false ∧ St w wx (star (T.IsA (.pointer (some pa)) (digAdd L t)) (star (IsRef (.pointer (some ⟨br, 0, none⟩)) (digAdd L t)) nothing)))
        case first =>
          go_region_with (first
            | (go_at_call 8; refine HK1.out.mono ?_; rintro e w5 ⟨rfl, h5⟩; have e5 := (h5.below.cell (p := ⟨b, off + k, none⟩) hbw).trans HC.out; have K2 := h5.swap.rdigest tA t.length tcap t (by omega) rfl (by omega) q1 HQ3.out (HQ4.out.below h5.below))
            | (go_at_call 12; refine K2.mono ?_; rintro e w6 ⟨rfl, h6⟩; have e6 := (h6.below.cell (p := ⟨b, off + k, none⟩) hbw).trans HC.out; have K3 := h6.swap.len (by omega); obtain ⟨rA, rcap, rc6, _⟩ := h6.refcells; have rl6 := World.block_lt_of_cell? w6 _ rc6)
            | (go_at_call 9; refine K3.mono ?_; rintro e w7 ⟨rfl, h7, hb7⟩; have rc7 := (hb7.cell (p := ⟨br, 0, none⟩) rl6).trans rc6))
          all_goals
            go_wp2_with fail
            go_meet
            exact ⟨rfl, h7⟩
        case rest =>
          obtain ⟨rfl, hst5⟩ := hcut
          obtain ⟨w5, rfl⟩ : ∃ w5 : World, w5 = wc := ⟨_, rfl⟩
          generalize digAdd L t = L2 at hst5 hL2
          have H5 := Lib.hid hst5
          clear hst5 HK1 hcell HST HC HQ3 HQ4 ht q1 q2 hLk
          have hd : ∃ d : Int, (-9223372036854775808 ≤ d ∧ d < 9223372036854775808) ∧ ((k < lk ∧ ∃ b2 off2 : Nat, B = some ⟨b2, off2, none⟩ ∧ w5.cell? ⟨b2, off2 + k, none⟩ = some (.int .i64 d)) ∨ (¬ k < lk ∧ d = k)) := by
            by_cases hkl : k < lk
            · have hkk : k < ks.length := by rw [HLK.out]; exact hkl
              obtain ⟨b2, off2, e2, hb2, hc2⟩ : ∃ b off : Nat, B = some ⟨b, off, none⟩ ∧ b < w.heap.size ∧ ∀ i (h : i < ks.length), w.cell? ⟨b, off + i, none⟩ = some (.int .i64 ks[i]) := by
                rcases HKS.out with h | h
                · rw [h] at hkk; simp at hkk
                · exact h
              exact ⟨ks[k], HWF.out _ (List.getElem_mem hkk), Or.inl ⟨hkl, b2, off2, e2, (H5.out.below.cell (p := ⟨b2, off2 + k, none⟩) hb2).trans (hc2 k hkk)⟩⟩
            · exact ⟨k, ⟨by omega, by omega⟩, Or.inr ⟨hkl, rfl⟩⟩
          obtain ⟨d, ⟨hd0, hd1⟩, hd⟩ := hd
          go_upto_if 60 with fail
          go_cut [8] (fun s8 wx => s8 = .int .i64 d ∧ wx = w5)
          case first =>
            clear hd0 hd1
            rcases hd with ⟨hkl, b2, off2, rfl, hcd⟩ | ⟨hkl, rfl⟩
            · go_wp2_with fail
              go_meet
              exact ⟨rfl, rfl⟩
            · go_wp2_with fail
              go_meet
              exact ⟨rfl, rfl⟩
          case rest =>
            obtain ⟨rfl, rfl⟩ := hcut
            clear hd
            obtain ⟨w6, rfl⟩ : ∃ w6 : World, w6 = wc := ⟨_, rfl⟩
            go_wp2_with fail
            refine (H5.out.of d (by omega) hd0 hd1).mono ?_
            rintro e w7 ⟨x, rfl, h7⟩
            obtain ⟨xA, xcap, rfl, hxc, hxn, hxl⟩ := h7.lieR
            have h7' := h7.snd
            have HX := Lib.hid hxl; have HXN := Lib.hid hxn; have HXC := Lib.hid hxc
            have H7 := Lib.hid h7'
            clear hxl hxn hxc h7 h7' H5
            obtain ⟨okb, hokb⟩ : ∃ q, ofOk L2 d = q := ⟨_, rfl⟩
            obtain ⟨row, hrowd⟩ : ∃ r, ofRow L2 d = r := ⟨_, rfl⟩
            obtain ⟨xl, hxl⟩ : ∃ n, row.length = n := ⟨_, rfl⟩
            rw [hokb, hrowd, hxl]
            rw [hrowd] at HX HXC
            rw [hxl] at HXC
            have HOK := Lib.hid hokb; have HROW := Lib.hid hrowd; have HXL := Lib.hid hxl
            clear hokb hrowd hxl
            go_upto_region 16 with fail
            go_cut [108] (fun s108 wx => s108 = .bool false ∧ St w wx (star (T.IsA (.pointer (some pa)) L2) (star (IsRef (.pointer (some ⟨br, 0, none⟩)) L2) nothing)))
            case first =>
              obtain ⟨rA, rcap, rc, rcs⟩ := H7.out.swap.refcells
              obtain ⟨n2, hn2⟩ : ∃ n, L2.length = n := ⟨_, rfl⟩
              rw [hn2] at rc hL2
              by_cases hd : 1 ≤ d ∧ d ≤ n2
              · obtain rfl : okb = true := by rw [← HOK.out, ofOk, decide_eq_true_eq, hn2]; exact hd
                obtain ⟨j, hjd⟩ : ∃ j : Nat, (d - 1).toNat = j := ⟨_, rfl⟩
                have hj : j < L2.length := by omega
                have hrow : row = L2[j] := by
                  rw [← HROW.out, ofRow, if_pos (by omega), hjd]
                  simp [List.getD, List.getElem?_eq_getElem hj]
                obtain ⟨g, rfl, hcg⟩ := rcs j hj
                rw [← hrow] at hcg
                obtain ⟨s, hs⟩ : ∃ s : ByteArray, s = ⟨row.toArray⟩ := ⟨_, rfl⟩
                have cv := fun q : Nat => conv8 (P := Try.prog) (src := 26) (dst := 9) (cap := xcap) Try.underlying26 Try.underlying5 Try.underlying9 HXL.out (fun h => Nat.le_zero.1 (HXN.out h ▸ HXC.out)) (HX.out.below (below_drewN (Below.refl _ _) q))
                simp only [← hs] at cv
                rw [← hs] at hcg
                have hjn : j < n2 := by omega
                have b1 : decide (1 ≤ d) = true := by simpa using hd.1
                have b2 : decide (d ≤ (n2 : Int)) = true := by simpa using hd.2
                have hd1' : 0 ≤ d - 1 := by omega
                have hd2' : d - 1 < n2 := by omega
                have hd3' : d - 1 ≤ 9223372036854775807 := by omega
                have hw : IntKind.i64.wrap (d - 1) = d - 1 := IntWalk.i64_in _ (by omega)
                have HS := Lib.hid hs
                clear hd hrow hs rcs hd0 hd1
                go_quiet (fail)
                go_wp2_with fail
                go_meet
                exact ⟨rfl, H7.out.more (below_drewN (Below.refl _ _) _)⟩
              · obtain rfl : okb = false := by rw [← HOK.out, ofOk, decide_eq_false_iff_not, hn2]; exact hd
                obtain rfl : xl = 0 := by
                  rw [← HXL.out, ← HROW.out, ofRow, if_neg (by rw [hn2]; exact hd)]; rfl
                clear rcs
                rcases Int.lt_or_le d 1 with hlt | hge
                · have b1 : decide (1 ≤ d) = false := by simp; omega
                  clear hd hd0 hd1 hlt
                  go_quiet (fail)
                  go_wp2_with fail
                  go_meet
                  exact ⟨rfl, H7.out.more (below_drewN (Below.refl _ _) _)⟩
                · have b1 : decide (1 ≤ d) = true := by simpa using hge
                  have b2 : decide (d ≤ (n2 : Int)) = false := by simp; omega
                  clear hd hd0 hd1 hge
                  go_quiet (fail)
                  go_wp2_with fail
                  go_meet
                  exact ⟨rfl, H7.out.more (below_drewN (Below.refl _ _) _)⟩
            case rest =>
              obtain ⟨rfl, hst8⟩ := hcut
              have H8 := Lib.hid hst8
              clear hst8
              go_wp2_with fail
              go_roundw
              case rel => exact ⟨k + 1, L2, by omega, by omega, by go_num, hL2, H8.out⟩
              case measure => simp [intOf]; omega
    · have hge : k = ln ∨ (k < ln ∧ k = 40) := by omega
      have HB := Lib.hid hst.below
      clear hst
      rcases hge with rfl | ⟨hlt, rfl⟩
      all_goals
        go_wp2_with fail
        refine (awake_any T _).mono ?_
        rintro e w3 ⟨rfl, hb3⟩
        go_wp2
        go_ret
        exact ⟨rfl, HB.out.trans (hb3.mono HB.out.size)⟩
end Go.Proofs.Ytlodklmcamanpaa
