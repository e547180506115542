/- The document's own vault: Open; and the vault as a thing that lies apart. Conditions: it lies in memory and has at most a million things. -/
import Derived.Test.YtdhnpbfoeohhmaaVaultSeal
import Derived.Deep.CutBlock
import Derived.Deep.DeepCutAuto
import Derived.Deep.RegionHeld3
namespace Go.Proofs.Ytdhnpbfoeohhmaa
open Go.RowKit Go.WideShapes

theorem Chg.of_drewN' {F : Nat → Prop} {a b : World} (h : Chg F a b.drew) (q : Nat) : Chg F a (b.drewN q) := ⟨h.os, h.tape, h.output, h.size, h.block⟩
theorem openOk_not {n : Int} {T : Texts} {L : List (Int × Int)} {label c : Int} (h : isC T c = false) : openOk n T L label c = false := by simp [openOk, h]
theorem openOk_at {n : Int} {T : Texts} {L : List (Int × Int)} {label c : Int} {j : Nat} (h : isC T c = true) (hj : (c - 1).toNat = j) (hl : j < T.length) :
    openOk n T L label c = (decide (max n 1 ≤ ((allOf L c).length : Int)) && decide (T[j].1 = label)) ∧ (openOk n T L label c = true → openRow n T L label c = T[j].2) := by
  have e : T.getD j (0, []) = T[j] := by simp [List.getD, List.getElem?_eq_getElem hl]
  constructor
  · rw [openOk, h, Bool.true_and, hj, e]
  · intro ho
    rw [openRow, if_pos ho, hj, e]

section
variable {w : World} {b : Nat} {n : Int} {s1 s2 : Value} {T : Texts} {L : List (Int × Int)} {F : Nat → Prop}
theorem text_cells (hs : w.ownsRow 0 67 2 s1 T.length (cellsT T)) {k : Nat} (hk : k < T.length) : ∃ g cap, s1 = .slice (some ⟨g, 0, none⟩) T.length cap ∧ w.cell? ⟨g, k * 2, none⟩ = some (.int .i64 T[k].1) ∧ w.cell? ⟨g, k * 2 + 1, none⟩ = some (.string ⟨T[k].2.toArray⟩) := by
  obtain ⟨g, cap, e, h1⟩ := rowN_cell hs (cellsT_at hk).1
  obtain ⟨g2, cap2, e2, h2⟩ := rowN_cell hs (cellsT_at hk).2
  rw [e] at e2
  injection e2 with e3 _ e4
  injection e3 with e3
  injection e3 with e3
  subst e3
  exact ⟨g, cap, e, h1, h2⟩

set_option maxRecDepth 100000 in
set_option maxHeartbeats 8000000 in
theorem vopen_any (label c : Int) (h : VaultAt b n s1 s2 T L w F) (hT : T.length ≤ 1000000) (hL : L.length ≤ 1000000) (ho : OnlyC T L) :
    Calls Try.prog 19 #[.pointer (some ⟨b, 0, none⟩), .int .i64 label, .int .i64 c] w fun e w' => ∃ x F', e = .returned (.tuple #[x, .bool (openOk n T L label c)]) ∧ R8 x (openRow n T L label c) w' F' ∧ (∀ k, F' k → w.heap.size ≤ k) ∧ Below w.heap.size w w' := by
  have h0 := (Turns.begin h).drew
  obtain ⟨hb, c0, c1, c2, _, hs, hp⟩ := VaultAt.facts h0.pad
  have hbw : b < w.heap.size := hb
  have K0 := Lib.hid (vis_any c c1 hs)
  have KS := Lib.hid (vshares_any c hb c1 c2 hs hp hL ho)
  obtain ⟨q, hq⟩ : ∃ q, isC T c = q := ⟨_, rfl⟩
  rw [hq] at K0
  rcases q with _ | _
  · have e1 : openOk n T L label c = false := openOk_not hq
    have e2 : openRow n T L label c = [] := by rw [openRow, e1]; rfl
    rw [e1, e2]
    have KQ : Hid (∀ m, Calls Try.prog 26 #[.pointer (some ⟨b, 0, none⟩), .int .i64 c] (w.drewN m) fun e w' => e = .returned (.bool false) ∧ w' = w.drewN m) := Lib.hid fun m => by
      rw [← hq]; exact vis_any (w := w.drewN m) (b := b) (s1 := s1) (T := T) c c1 (rowN_keep hs (Chg.refl (fun _ => False) _ |>.of_drewN' m) (fun _ _ h => h))
    clear h h0 hs hp c0 c1 c2 hq e1 e2 ho KS K0
    go_enter Try.func19, Try.ntmps19
    go_wp2_with fail
    go_quiet ((go_at_call 26; exact Calls.quiet_of_same (KQ.out _)))
    go_wp2_with fail
    go_ret2
    exact ⟨_, _, rfl, R8.nil _, fun _ h => h.elim, below_drewN (Below.refl _ _) _⟩
  · have hc := isC_iff.1 hq
    obtain ⟨j, hj⟩ : ∃ j : Nat, (c - 1).toNat = j := ⟨_, rfl⟩
    have hjT : j < T.length := by omega
    obtain ⟨g, cap, rfl, g1, g2⟩ := text_cells hs hjT
    obtain ⟨e1, e2⟩ := openOk_at (n := n) (L := L) (label := label) hq hj hjT
    have hg : g < w.heap.size := World.block_lt_of_cell? w.drew _ g1
    obtain ⟨cnt, hcnt⟩ : ∃ m, (allOf L c).length = m := ⟨_, rfl⟩
    rw [hcnt] at KS e1
    have hcn : cnt ≤ 1000000 := by have := allOf_le L c; omega
    obtain ⟨p, hp1⟩ : ∃ p, T[j] = p := ⟨_, rfl⟩
    rw [hp1] at g1 g2 e1 e2
    obtain ⟨lb, tx⟩ := p
    simp only at g1 g2 e1 e2
    obtain ⟨nt, hnt⟩ : ∃ k, T.length = k := ⟨_, rfl⟩
    rw [hnt] at c1 hc hT
    obtain ⟨r, hr⟩ : ∃ r, openOk n T L label c = r := ⟨_, rfl⟩
    have E1 := Lib.hid e1; have E2 := Lib.hid e2; have HR := Lib.hid hr
    rw [hr]
    obtain ⟨s, hsx⟩ : ∃ s : ByteArray, s = ⟨tx.toArray⟩ := ⟨_, rfl⟩
    rw [← hsx] at g2
    have HSX := Lib.hid hsx
    have w0 : 1 ≤ c := hc.1
    have w1 : 0 ≤ c - 1 := by omega
    have w2 : c - 1 < nt := by omega
    have w3 : c - 1 ≤ 9223372036854775807 := by omega
    have w4 : IntKind.i64.wrap (c - 1) = c - 1 := IntWalk.i64_in _ (by omega)
    have C0 := Lib.hid c0; have C1 := Lib.hid c1; have G1 := Lib.hid g1; have G2 := Lib.hid g2
    obtain ⟨m, hm⟩ : ∃ m : Int, max n 1 = m := ⟨_, rfl⟩
    have hmm : (if n < 1 then (1 : Int) else n) = m := by rw [← hm]; split <;> omega
    rw [hm] at E1
    obtain ⟨r1, hr1⟩ : ∃ r1, decide ((cnt : Int) < m) = r1 := ⟨_, rfl⟩
    obtain ⟨r2, hr2⟩ : ∃ r2, (lb == label) = r2 := ⟨_, rfl⟩
    have hrr : r = (!r1 && r2) := by
      rw [← HR.out, E1.out, ← hr1, ← hr2]
      congr 1
      rw [← decide_not, decide_eq_decide]; omega
    clear h h0 hs hp c2 hq ho e1 e2 hr hsx hcnt hp1 hjT hnt hc g2 hm
    go_enter Try.func19, Try.ntmps19
    go_upto_region 1 with fail
    go_cut [36] (fun s36 wx => s36 = .bool (!r) ∧ Below w.heap.size w wx)
    case first =>
      rcases r1 with _ | _
      -- GEN4
      · refine wp_region_held_drew (S := fun w' => w'.cell? ⟨b, 0, none⟩ = some (.int .i64 n) ∧ w'.cell? ⟨b, 1, none⟩ = some (.slice (some ⟨g, 0, none⟩) nt cap) ∧ w'.cell? ⟨g, j * 2, none⟩ = some (.int .i64 lb)) (by kernel_rfl) ⟨c0, c1, g1⟩ (fun hHeld => ?_)
        refine wpAnyH_take (i := 0) (v := ?_) rfl (by kernel_rfl) (by kernel_rfl) (by kernel_rfl) (fun _ _ _ h => h) (Or.inl ⟨by rfl, ?_⟩) (by assumption) ?_
        rotate_left
        · (intro w hSw; (try dsimp only at hSw); go_simp; try with_reducible rfl)
        conv => arg 8; simp only [List.getElem_toArray, List.getElem_cons_zero, List.getElem_cons_succ, Act.put, List.setIfInBounds_toArray, List.set_cons_zero, List.set_cons_succ]
        refine wpAnyH_take (i := 1) (v := ?_) rfl (by kernel_rfl) (by kernel_rfl) (by kernel_rfl) (fun _ _ _ h => h) (Or.inl ⟨by rfl, ?_⟩) (by assumption) ?_
        rotate_left
        · (intro w hSw; (try dsimp only at hSw); go_simp; try with_reducible rfl)
        conv => arg 8; simp only [List.getElem_toArray, List.getElem_cons_zero, List.getElem_cons_succ, Act.put, List.setIfInBounds_toArray, List.set_cons_zero, List.set_cons_succ]
        refine wpAnyH_ready (rs := [2]) (by kernel_rfl) (by simp) ?_
        refine AllReadyH.cons rfl (fun K hK => ?_) AllReadyH.nil
        go_simp
        (go_at_call 26; refine K0.out.mono ?_; rintro e w5 ⟨rfl, rfl⟩)
        refine hK.out _ _ ⟨c0, c1, g1⟩ (fun hHeld => ?_)
        clear hK
        conv => arg 8; simp only [List.getElem_toArray, List.getElem_cons_zero, List.getElem_cons_succ, Act.put, List.setIfInBounds_toArray, List.set_cons_zero, List.set_cons_succ]
        refine wpAnyH_take (i := 3) (v := ?_) rfl (by kernel_rfl) (by kernel_rfl) (by kernel_rfl) (fun _ _ _ h => h) (Or.inl ⟨by rfl, ?_⟩) (by assumption) ?_
        rotate_left
        · (intro w hSw; (try dsimp only at hSw); go_simp; try with_reducible rfl)
        conv => arg 8; simp only [List.getElem_toArray, List.getElem_cons_zero, List.getElem_cons_succ, Act.put, List.setIfInBounds_toArray, List.set_cons_zero, List.set_cons_succ]
        refine wpAnyH_take (i := 4) (v := ?_) rfl (by kernel_rfl) (by kernel_rfl) (by kernel_rfl) (fun _ _ _ h => h) (Or.inl ⟨by rfl, ?_⟩) (by assumption) ?_
        rotate_left
        · (intro w hSw; (try dsimp only at hSw); go_simp; try with_reducible rfl)
        conv => arg 8; simp only [List.getElem_toArray, List.getElem_cons_zero, List.getElem_cons_succ, Act.put, List.setIfInBounds_toArray, List.set_cons_zero, List.set_cons_succ]
        refine wpAnyH_take (i := 5) (v := ?_) rfl (by kernel_rfl) (by kernel_rfl) (by kernel_rfl) (fun _ _ _ h => h) (Or.inl ⟨by rfl, ?_⟩) (by assumption) ?_
        rotate_left
        · (intro w hSw; (try dsimp only at hSw); go_simp; try with_reducible rfl)
        conv => arg 8; simp only [List.getElem_toArray, List.getElem_cons_zero, List.getElem_cons_succ, Act.put, List.setIfInBounds_toArray, List.set_cons_zero, List.set_cons_succ]
        refine wpAnyH_take (i := 6) (v := ?_) rfl (by kernel_rfl) (by kernel_rfl) (by kernel_rfl) (fun _ _ _ h => h) (Or.inl ⟨by rfl, ?_⟩) (by assumption) ?_
        rotate_left
        · (intro w hSw; (try dsimp only at hSw); go_simp; try with_reducible rfl)
        conv => arg 8; simp only [List.getElem_toArray, List.getElem_cons_zero, List.getElem_cons_succ, Act.put, List.setIfInBounds_toArray, List.set_cons_zero, List.set_cons_succ]
        refine wpAnyH_take (i := 9) (v := ?_) rfl (by kernel_rfl) (by kernel_rfl) (by kernel_rfl) (fun _ _ _ h => h) (Or.inl ⟨by rfl, ?_⟩) (by assumption) ?_
        rotate_left
        · (intro w hSw; (try dsimp only at hSw); go_simp; try with_reducible rfl)
        conv => arg 8; simp only [List.getElem_toArray, List.getElem_cons_zero, List.getElem_cons_succ, Act.put, List.setIfInBounds_toArray, List.set_cons_zero, List.set_cons_succ]
        refine wpAnyH_take (i := 10) (v := ?_) rfl (by kernel_rfl) (by kernel_rfl) (by kernel_rfl) (fun _ _ _ h => h) (Or.inl ⟨by rfl, ?_⟩) (by assumption) ?_
        rotate_left
        · (intro w hSw; (try dsimp only at hSw); go_simp; try with_reducible rfl)
        conv => arg 8; simp only [List.getElem_toArray, List.getElem_cons_zero, List.getElem_cons_succ, Act.put, List.setIfInBounds_toArray, List.set_cons_zero, List.set_cons_succ]
        refine wpAnyH_take (i := 11) (v := ?_) rfl (by kernel_rfl) (by kernel_rfl) (by kernel_rfl) (fun _ _ _ h => h) (Or.inl ⟨by rfl, ?_⟩) (by assumption) ?_
        rotate_left
        · (intro w hSw; (try dsimp only at hSw); go_simp; try with_reducible rfl)
        conv => arg 8; simp only [List.getElem_toArray, List.getElem_cons_zero, List.getElem_cons_succ, Act.put, List.setIfInBounds_toArray, List.set_cons_zero, List.set_cons_succ]
        refine wpAnyH_take (i := 12) (v := ?_) rfl (by kernel_rfl) (by kernel_rfl) (by kernel_rfl) (fun _ _ _ h => h) (Or.inl ⟨by rfl, ?_⟩) (by assumption) ?_
        rotate_left
        · (intro w hSw; (try dsimp only at hSw); go_simp; try with_reducible rfl)
        conv => arg 8; simp only [List.getElem_toArray, List.getElem_cons_zero, List.getElem_cons_succ, Act.put, List.setIfInBounds_toArray, List.set_cons_zero, List.set_cons_succ]
        refine wpAnyH_take (i := 13) (v := ?_) rfl (by kernel_rfl) (by kernel_rfl) (by kernel_rfl) (fun _ _ _ h => h) (Or.inl ⟨by rfl, ?_⟩) (by assumption) ?_
        rotate_left
        · (intro w hSw; (try dsimp only at hSw); go_simp; try with_reducible rfl)
        conv => arg 8; simp only [List.getElem_toArray, List.getElem_cons_zero, List.getElem_cons_succ, Act.put, List.setIfInBounds_toArray, List.set_cons_zero, List.set_cons_succ]
        refine wpAnyH_ready (rs := [7]) (by kernel_rfl) (by simp) ?_
        refine AllReadyH.cons rfl (fun K hK => ?_) AllReadyH.nil
        go_simp
        (go_at_call 21; refine KS.out.mono ?_; rintro e w5 ⟨x5, rfl, ho5, hb5⟩; obtain ⟨A5, cap5, rfl, _, _⟩ := ints_own ho5; have d0 := (hb5.cell (p := ⟨b, 0, none⟩) hb).trans C0.out; have d1 := (hb5.cell (p := ⟨b, 1, none⟩) hb).trans C1.out; have d2 := (hb5.cell (p := ⟨g, j * 2, none⟩) hg).trans G1.out; have HB5 := Lib.hid hb5; clear ho5 hb5)
        refine hK.out _ _ ⟨d0, d1, d2⟩ (fun hHeld => ?_)
        clear hK
        conv => arg 8; simp only [List.getElem_toArray, List.getElem_cons_zero, List.getElem_cons_succ, Act.put, List.setIfInBounds_toArray, List.set_cons_zero, List.set_cons_succ]
        refine wpAnyH_take (i := 8) (v := ?_) rfl (by kernel_rfl) (by kernel_rfl) (by kernel_rfl) (fun _ _ _ h => h) (Or.inl ⟨by rfl, ?_⟩) (by assumption) ?_
        rotate_left
        · (intro w hSw; (try dsimp only at hSw); go_simp; try with_reducible rfl)
        conv => arg 8; simp only [List.getElem_toArray, List.getElem_cons_zero, List.getElem_cons_succ, Act.put, List.setIfInBounds_toArray, List.set_cons_zero, List.set_cons_succ]
        refine wpAnyH_take (i := 14) (v := ?_) rfl (by kernel_rfl) (by kernel_rfl) (by kernel_rfl) (fun _ _ _ h => h) (Or.inl ⟨by rfl, ?_⟩) (by assumption) ?_
        rotate_left
        · (intro w hSw; (try dsimp only at hSw); go_simp; try with_reducible rfl)
        conv => arg 8; simp only [List.getElem_toArray, List.getElem_cons_zero, List.getElem_cons_succ, Act.put, List.setIfInBounds_toArray, List.set_cons_zero, List.set_cons_succ]
        refine wpAnyH_take (i := 15) (v := ?_) rfl (by kernel_rfl) (by kernel_rfl) (by kernel_rfl) (fun _ _ _ h => h) (Or.inl ⟨by rfl, ?_⟩) (by assumption) ?_
        rotate_left
        · (intro w hSw; (try dsimp only at hSw); go_simp; try with_reducible rfl)
        conv => arg 8; simp only [List.getElem_toArray, List.getElem_cons_zero, List.getElem_cons_succ, Act.put, List.setIfInBounds_toArray, List.set_cons_zero, List.set_cons_succ]
        refine wpAnyH_take (i := 16) (v := ?_) rfl (by kernel_rfl) (by kernel_rfl) (by kernel_rfl) (fun _ _ _ h => h) (Or.inl ⟨by rfl, ?_⟩) (by assumption) ?_
        rotate_left
        · (intro w hSw; (try dsimp only at hSw); go_simp; try with_reducible rfl)
        conv => arg 8; simp only [List.getElem_toArray, List.getElem_cons_zero, List.getElem_cons_succ, Act.put, List.setIfInBounds_toArray, List.set_cons_zero, List.set_cons_succ]
        refine wpAnyH_take (i := 17) (v := ?_) rfl (by kernel_rfl) (by kernel_rfl) (by kernel_rfl) (fun _ _ _ h => h) (Or.inl ⟨by rfl, ?_⟩) (by assumption) ?_
        rotate_left
        · (intro w hSw; (try dsimp only at hSw); go_simp; try with_reducible rfl)
        conv => arg 8; simp only [List.getElem_toArray, List.getElem_cons_zero, List.getElem_cons_succ, Act.put, List.setIfInBounds_toArray, List.set_cons_zero, List.set_cons_succ]
        refine wpAnyH_take (i := 18) (v := ?_) rfl (by kernel_rfl) (by kernel_rfl) (by kernel_rfl) (fun _ _ _ h => h) (Or.inl ⟨by rfl, ?_⟩) (by assumption) ?_
        rotate_left
        · (intro w hSw; (try dsimp only at hSw); go_simp; try with_reducible rfl)
        conv => arg 8; simp only [List.getElem_toArray, List.getElem_cons_zero, List.getElem_cons_succ, Act.put, List.setIfInBounds_toArray, List.set_cons_zero, List.set_cons_succ]
        refine wpAnyH_take (i := 19) (v := ?_) rfl (by kernel_rfl) (by kernel_rfl) (by kernel_rfl) (fun _ _ _ h => h) (Or.inl ⟨by rfl, ?_⟩) (by assumption) ?_
        rotate_left
        · (intro w hSw; (try dsimp only at hSw); go_simp; try with_reducible rfl)
        conv => arg 8; simp only [List.getElem_toArray, List.getElem_cons_zero, List.getElem_cons_succ, Act.put, List.setIfInBounds_toArray, List.set_cons_zero, List.set_cons_succ]
        refine wpAnyH_take (i := 20) (v := ?_) rfl (by kernel_rfl) (by kernel_rfl) (by kernel_rfl) (fun _ _ _ h => h) (Or.inl ⟨by rfl, ?_⟩) (by assumption) ?_
        rotate_left
        · (intro w hSw; (try dsimp only at hSw); go_simp; try with_reducible rfl)
        conv => arg 8; simp only [List.getElem_toArray, List.getElem_cons_zero, List.getElem_cons_succ, Act.put, List.setIfInBounds_toArray, List.set_cons_zero, List.set_cons_succ]
        refine wpAnyH_take (i := 21) (v := ?_) rfl (by kernel_rfl) (by kernel_rfl) (by kernel_rfl) (fun _ _ _ h => h) (Or.inl ⟨by rfl, ?_⟩) (by assumption) ?_
        rotate_left
        · (intro w hSw; (try dsimp only at hSw); go_simp; try with_reducible rfl)
        conv => arg 8; simp only [List.getElem_toArray, List.getElem_cons_zero, List.getElem_cons_succ, Act.put, List.setIfInBounds_toArray, List.set_cons_zero, List.set_cons_succ]
        refine wpAnyH_take (i := 22) (v := ?_) rfl (by kernel_rfl) (by kernel_rfl) (by kernel_rfl) (fun _ _ _ h => h) (Or.inl ⟨by rfl, ?_⟩) (by assumption) ?_
        rotate_left
        · (intro w hSw; (try dsimp only at hSw); go_simp; try with_reducible rfl)
        conv => arg 8; simp only [List.getElem_toArray, List.getElem_cons_zero, List.getElem_cons_succ, Act.put, List.setIfInBounds_toArray, List.set_cons_zero, List.set_cons_succ]
        refine wpAnyH_take (i := 23) (v := ?_) rfl (by kernel_rfl) (by kernel_rfl) (by kernel_rfl) (fun _ _ _ h => h) (Or.inl ⟨by rfl, ?_⟩) (by assumption) ?_
        rotate_left
        · (intro w hSw; (try dsimp only at hSw); go_simp; try with_reducible rfl)
        conv => arg 8; simp only [List.getElem_toArray, List.getElem_cons_zero, List.getElem_cons_succ, Act.put, List.setIfInBounds_toArray, List.set_cons_zero, List.set_cons_succ]
        refine wpAnyH_take (i := 24) (v := ?_) rfl (by kernel_rfl) (by kernel_rfl) (by kernel_rfl) (fun _ _ _ h => h) (Or.inl ⟨by rfl, ?_⟩) (by assumption) ?_
        rotate_left
        · (intro w hSw; (try dsimp only at hSw); go_simp; try with_reducible rfl)
        conv => arg 8; simp only [List.getElem_toArray, List.getElem_cons_zero, List.getElem_cons_succ, Act.put, List.setIfInBounds_toArray, List.set_cons_zero, List.set_cons_succ]
        refine wpAnyH_take (i := 25) (v := ?_) rfl (by kernel_rfl) (by kernel_rfl) (by kernel_rfl) (fun _ _ _ h => h) (Or.inl ⟨by rfl, ?_⟩) (by assumption) ?_
        rotate_left
        · (intro w hSw; (try dsimp only at hSw); go_simp; try with_reducible rfl)
        conv => arg 8; simp only [List.getElem_toArray, List.getElem_cons_zero, List.getElem_cons_succ, Act.put, List.setIfInBounds_toArray, List.set_cons_zero, List.set_cons_succ]
        refine wpAnyH_take (i := 26) (v := ?_) rfl (by kernel_rfl) (by kernel_rfl) (by kernel_rfl) (fun _ _ _ h => h) (Or.inl ⟨by rfl, ?_⟩) (by assumption) ?_
        rotate_left
        · (intro w hSw; (try dsimp only at hSw); go_simp; try with_reducible rfl)
        conv => arg 8; simp only [List.getElem_toArray, List.getElem_cons_zero, List.getElem_cons_succ, Act.put, List.setIfInBounds_toArray, List.set_cons_zero, List.set_cons_succ]
        refine wpAnyH_take (i := 27) (v := ?_) rfl (by kernel_rfl) (by kernel_rfl) (by kernel_rfl) (fun _ _ _ h => h) (Or.inl ⟨by rfl, ?_⟩) (by assumption) ?_
        rotate_left
        · (intro w hSw; (try dsimp only at hSw); go_simp; try with_reducible rfl)
        conv => arg 8; simp only [List.getElem_toArray, List.getElem_cons_zero, List.getElem_cons_succ, Act.put, List.setIfInBounds_toArray, List.set_cons_zero, List.set_cons_succ]
        refine wpAnyH_take (i := 28) (v := ?_) rfl (by kernel_rfl) (by kernel_rfl) (by kernel_rfl) (fun _ _ _ h => h) (Or.inl ⟨by rfl, ?_⟩) (by assumption) ?_
        rotate_left
        · (intro w hSw; (try dsimp only at hSw); go_simp; try with_reducible rfl)
        conv => arg 8; simp only [List.getElem_toArray, List.getElem_cons_zero, List.getElem_cons_succ, Act.put, List.setIfInBounds_toArray, List.set_cons_zero, List.set_cons_succ]
        refine wpAnyH_done (by kernel_rfl) ?_ _
        go_wp2_with fail
        go_meet
        exact ⟨by first | (rw [hrr]; rfl) | (rw [hrr, ← hr2]; rfl), (Below.refl _ _).drew.trans HB5.out⟩
      · refine wp_region_held_drew (S := fun w' => w'.cell? ⟨b, 0, none⟩ = some (.int .i64 n) ∧ w'.cell? ⟨b, 1, none⟩ = some (.slice (some ⟨g, 0, none⟩) nt cap) ∧ w'.cell? ⟨g, j * 2, none⟩ = some (.int .i64 lb)) (by kernel_rfl) ⟨c0, c1, g1⟩ (fun hHeld => ?_)
        refine wpAnyH_take (i := 0) (v := ?_) rfl (by kernel_rfl) (by kernel_rfl) (by kernel_rfl) (fun _ _ _ h => h) (Or.inl ⟨by rfl, ?_⟩) (by assumption) ?_
        rotate_left
        · (intro w hSw; (try dsimp only at hSw); go_simp; try with_reducible rfl)
        conv => arg 8; simp only [List.getElem_toArray, List.getElem_cons_zero, List.getElem_cons_succ, Act.put, List.setIfInBounds_toArray, List.set_cons_zero, List.set_cons_succ]
        refine wpAnyH_take (i := 1) (v := ?_) rfl (by kernel_rfl) (by kernel_rfl) (by kernel_rfl) (fun _ _ _ h => h) (Or.inl ⟨by rfl, ?_⟩) (by assumption) ?_
        rotate_left
        · (intro w hSw; (try dsimp only at hSw); go_simp; try with_reducible rfl)
        conv => arg 8; simp only [List.getElem_toArray, List.getElem_cons_zero, List.getElem_cons_succ, Act.put, List.setIfInBounds_toArray, List.set_cons_zero, List.set_cons_succ]
        refine wpAnyH_ready (rs := [2]) (by kernel_rfl) (by simp) ?_
        refine AllReadyH.cons rfl (fun K hK => ?_) AllReadyH.nil
        go_simp
        (go_at_call 26; refine K0.out.mono ?_; rintro e w5 ⟨rfl, rfl⟩)
        refine hK.out _ _ ⟨c0, c1, g1⟩ (fun hHeld => ?_)
        clear hK
        conv => arg 8; simp only [List.getElem_toArray, List.getElem_cons_zero, List.getElem_cons_succ, Act.put, List.setIfInBounds_toArray, List.set_cons_zero, List.set_cons_succ]
        refine wpAnyH_take (i := 3) (v := ?_) rfl (by kernel_rfl) (by kernel_rfl) (by kernel_rfl) (fun _ _ _ h => h) (Or.inl ⟨by rfl, ?_⟩) (by assumption) ?_
        rotate_left
        · (intro w hSw; (try dsimp only at hSw); go_simp; try with_reducible rfl)
        conv => arg 8; simp only [List.getElem_toArray, List.getElem_cons_zero, List.getElem_cons_succ, Act.put, List.setIfInBounds_toArray, List.set_cons_zero, List.set_cons_succ]
        refine wpAnyH_take (i := 4) (v := ?_) rfl (by kernel_rfl) (by kernel_rfl) (by kernel_rfl) (fun _ _ _ h => h) (Or.inl ⟨by rfl, ?_⟩) (by assumption) ?_
        rotate_left
        · (intro w hSw; (try dsimp only at hSw); go_simp; try with_reducible rfl)
        conv => arg 8; simp only [List.getElem_toArray, List.getElem_cons_zero, List.getElem_cons_succ, Act.put, List.setIfInBounds_toArray, List.set_cons_zero, List.set_cons_succ]
        refine wpAnyH_take (i := 5) (v := ?_) rfl (by kernel_rfl) (by kernel_rfl) (by kernel_rfl) (fun _ _ _ h => h) (Or.inl ⟨by rfl, ?_⟩) (by assumption) ?_
        rotate_left
        · (intro w hSw; (try dsimp only at hSw); go_simp; try with_reducible rfl)
        conv => arg 8; simp only [List.getElem_toArray, List.getElem_cons_zero, List.getElem_cons_succ, Act.put, List.setIfInBounds_toArray, List.set_cons_zero, List.set_cons_succ]
        refine wpAnyH_take (i := 6) (v := ?_) rfl (by kernel_rfl) (by kernel_rfl) (by kernel_rfl) (fun _ _ _ h => h) (Or.inl ⟨by rfl, ?_⟩) (by assumption) ?_
        rotate_left
        · (intro w hSw; (try dsimp only at hSw); go_simp; try with_reducible rfl)
        conv => arg 8; simp only [List.getElem_toArray, List.getElem_cons_zero, List.getElem_cons_succ, Act.put, List.setIfInBounds_toArray, List.set_cons_zero, List.set_cons_succ]
        refine wpAnyH_take (i := 9) (v := ?_) rfl (by kernel_rfl) (by kernel_rfl) (by kernel_rfl) (fun _ _ _ h => h) (Or.inl ⟨by rfl, ?_⟩) (by assumption) ?_
        rotate_left
        · (intro w hSw; (try dsimp only at hSw); go_simp; try with_reducible rfl)
        conv => arg 8; simp only [List.getElem_toArray, List.getElem_cons_zero, List.getElem_cons_succ, Act.put, List.setIfInBounds_toArray, List.set_cons_zero, List.set_cons_succ]
        refine wpAnyH_take (i := 10) (v := ?_) rfl (by kernel_rfl) (by kernel_rfl) (by kernel_rfl) (fun _ _ _ h => h) (Or.inl ⟨by rfl, ?_⟩) (by assumption) ?_
        rotate_left
        · (intro w hSw; (try dsimp only at hSw); go_simp; try with_reducible rfl)
        conv => arg 8; simp only [List.getElem_toArray, List.getElem_cons_zero, List.getElem_cons_succ, Act.put, List.setIfInBounds_toArray, List.set_cons_zero, List.set_cons_succ]
        refine wpAnyH_take (i := 11) (v := ?_) rfl (by kernel_rfl) (by kernel_rfl) (by kernel_rfl) (fun _ _ _ h => h) (Or.inl ⟨by rfl, ?_⟩) (by assumption) ?_
        rotate_left
        · (intro w hSw; (try dsimp only at hSw); go_simp; try with_reducible rfl)
        conv => arg 8; simp only [List.getElem_toArray, List.getElem_cons_zero, List.getElem_cons_succ, Act.put, List.setIfInBounds_toArray, List.set_cons_zero, List.set_cons_succ]
        refine wpAnyH_take (i := 12) (v := ?_) rfl (by kernel_rfl) (by kernel_rfl) (by kernel_rfl) (fun _ _ _ h => h) (Or.inl ⟨by rfl, ?_⟩) (by assumption) ?_
        rotate_left
        · (intro w hSw; (try dsimp only at hSw); go_simp; try with_reducible rfl)
        conv => arg 8; simp only [List.getElem_toArray, List.getElem_cons_zero, List.getElem_cons_succ, Act.put, List.setIfInBounds_toArray, List.set_cons_zero, List.set_cons_succ]
        refine wpAnyH_take (i := 13) (v := ?_) rfl (by kernel_rfl) (by kernel_rfl) (by kernel_rfl) (fun _ _ _ h => h) (Or.inl ⟨by rfl, ?_⟩) (by assumption) ?_
        rotate_left
        · (intro w hSw; (try dsimp only at hSw); go_simp; try with_reducible rfl)
        conv => arg 8; simp only [List.getElem_toArray, List.getElem_cons_zero, List.getElem_cons_succ, Act.put, List.setIfInBounds_toArray, List.set_cons_zero, List.set_cons_succ]
        refine wpAnyH_ready (rs := [7]) (by kernel_rfl) (by simp) ?_
        refine AllReadyH.cons rfl (fun K hK => ?_) AllReadyH.nil
        go_simp
        (go_at_call 21; refine KS.out.mono ?_; rintro e w5 ⟨x5, rfl, ho5, hb5⟩; obtain ⟨A5, cap5, rfl, _, _⟩ := ints_own ho5; have d0 := (hb5.cell (p := ⟨b, 0, none⟩) hb).trans C0.out; have d1 := (hb5.cell (p := ⟨b, 1, none⟩) hb).trans C1.out; have d2 := (hb5.cell (p := ⟨g, j * 2, none⟩) hg).trans G1.out; have HB5 := Lib.hid hb5; clear ho5 hb5)
        refine hK.out _ _ ⟨d0, d1, d2⟩ (fun hHeld => ?_)
        clear hK
        conv => arg 8; simp only [List.getElem_toArray, List.getElem_cons_zero, List.getElem_cons_succ, Act.put, List.setIfInBounds_toArray, List.set_cons_zero, List.set_cons_succ]
        refine wpAnyH_take (i := 8) (v := ?_) rfl (by kernel_rfl) (by kernel_rfl) (by kernel_rfl) (fun _ _ _ h => h) (Or.inl ⟨by rfl, ?_⟩) (by assumption) ?_
        rotate_left
        · (intro w hSw; (try dsimp only at hSw); go_simp; try with_reducible rfl)
        conv => arg 8; simp only [List.getElem_toArray, List.getElem_cons_zero, List.getElem_cons_succ, Act.put, List.setIfInBounds_toArray, List.set_cons_zero, List.set_cons_succ]
        refine wpAnyH_take (i := 14) (v := ?_) rfl (by kernel_rfl) (by kernel_rfl) (by kernel_rfl) (fun _ _ _ h => h) (Or.inl ⟨by rfl, ?_⟩) (by assumption) ?_
        rotate_left
        · (intro w hSw; (try dsimp only at hSw); go_simp; try with_reducible rfl)
        conv => arg 8; simp only [List.getElem_toArray, List.getElem_cons_zero, List.getElem_cons_succ, Act.put, List.setIfInBounds_toArray, List.set_cons_zero, List.set_cons_succ]
        refine wpAnyH_take (i := 15) (v := ?_) rfl (by kernel_rfl) (by kernel_rfl) (by kernel_rfl) (fun _ _ _ h => h) (Or.inl ⟨by rfl, ?_⟩) (by assumption) ?_
        rotate_left
        · (intro w hSw; (try dsimp only at hSw); go_simp; try with_reducible rfl)
        conv => arg 8; simp only [List.getElem_toArray, List.getElem_cons_zero, List.getElem_cons_succ, Act.put, List.setIfInBounds_toArray, List.set_cons_zero, List.set_cons_succ]
        refine wpAnyH_take (i := 16) (v := ?_) rfl (by kernel_rfl) (by kernel_rfl) (by kernel_rfl) (fun _ _ _ h => h) (Or.inl ⟨by rfl, ?_⟩) (by assumption) ?_
        rotate_left
        · (intro w hSw; (try dsimp only at hSw); go_simp; try with_reducible rfl)
        conv => arg 8; simp only [List.getElem_toArray, List.getElem_cons_zero, List.getElem_cons_succ, Act.put, List.setIfInBounds_toArray, List.set_cons_zero, List.set_cons_succ]
        refine wpAnyH_take (i := 17) (v := undef) rfl (by kernel_rfl) (by kernel_rfl) (by kernel_rfl) (fun _ _ _ h => h) (Or.inr ⟨by rfl, rfl⟩) (by assumption) ?_
        conv => arg 8; simp only [List.getElem_toArray, List.getElem_cons_zero, List.getElem_cons_succ, Act.put, List.setIfInBounds_toArray, List.set_cons_zero, List.set_cons_succ]
        refine wpAnyH_take (i := 18) (v := undef) rfl (by kernel_rfl) (by kernel_rfl) (by kernel_rfl) (fun _ _ _ h => h) (Or.inr ⟨by rfl, rfl⟩) (by assumption) ?_
        conv => arg 8; simp only [List.getElem_toArray, List.getElem_cons_zero, List.getElem_cons_succ, Act.put, List.setIfInBounds_toArray, List.set_cons_zero, List.set_cons_succ]
        refine wpAnyH_take (i := 19) (v := undef) rfl (by kernel_rfl) (by kernel_rfl) (by kernel_rfl) (fun _ _ _ h => h) (Or.inr ⟨by rfl, rfl⟩) (by assumption) ?_
        conv => arg 8; simp only [List.getElem_toArray, List.getElem_cons_zero, List.getElem_cons_succ, Act.put, List.setIfInBounds_toArray, List.set_cons_zero, List.set_cons_succ]
        refine wpAnyH_take (i := 20) (v := undef) rfl (by kernel_rfl) (by kernel_rfl) (by kernel_rfl) (fun _ _ _ h => h) (Or.inr ⟨by rfl, rfl⟩) (by assumption) ?_
        conv => arg 8; simp only [List.getElem_toArray, List.getElem_cons_zero, List.getElem_cons_succ, Act.put, List.setIfInBounds_toArray, List.set_cons_zero, List.set_cons_succ]
        refine wpAnyH_take (i := 21) (v := undef) rfl (by kernel_rfl) (by kernel_rfl) (by kernel_rfl) (fun _ _ _ h => h) (Or.inr ⟨by rfl, rfl⟩) (by assumption) ?_
        conv => arg 8; simp only [List.getElem_toArray, List.getElem_cons_zero, List.getElem_cons_succ, Act.put, List.setIfInBounds_toArray, List.set_cons_zero, List.set_cons_succ]
        refine wpAnyH_take (i := 22) (v := undef) rfl (by kernel_rfl) (by kernel_rfl) (by kernel_rfl) (fun _ _ _ h => h) (Or.inr ⟨by rfl, rfl⟩) (by assumption) ?_
        conv => arg 8; simp only [List.getElem_toArray, List.getElem_cons_zero, List.getElem_cons_succ, Act.put, List.setIfInBounds_toArray, List.set_cons_zero, List.set_cons_succ]
        refine wpAnyH_take (i := 23) (v := undef) rfl (by kernel_rfl) (by kernel_rfl) (by kernel_rfl) (fun _ _ _ h => h) (Or.inr ⟨by rfl, rfl⟩) (by assumption) ?_
        conv => arg 8; simp only [List.getElem_toArray, List.getElem_cons_zero, List.getElem_cons_succ, Act.put, List.setIfInBounds_toArray, List.set_cons_zero, List.set_cons_succ]
        refine wpAnyH_take (i := 24) (v := undef) rfl (by kernel_rfl) (by kernel_rfl) (by kernel_rfl) (fun _ _ _ h => h) (Or.inr ⟨by rfl, rfl⟩) (by assumption) ?_
        conv => arg 8; simp only [List.getElem_toArray, List.getElem_cons_zero, List.getElem_cons_succ, Act.put, List.setIfInBounds_toArray, List.set_cons_zero, List.set_cons_succ]
        refine wpAnyH_take (i := 25) (v := undef) rfl (by kernel_rfl) (by kernel_rfl) (by kernel_rfl) (fun _ _ _ h => h) (Or.inr ⟨by rfl, rfl⟩) (by assumption) ?_
        conv => arg 8; simp only [List.getElem_toArray, List.getElem_cons_zero, List.getElem_cons_succ, Act.put, List.setIfInBounds_toArray, List.set_cons_zero, List.set_cons_succ]
        refine wpAnyH_take (i := 26) (v := undef) rfl (by kernel_rfl) (by kernel_rfl) (by kernel_rfl) (fun _ _ _ h => h) (Or.inr ⟨by rfl, rfl⟩) (by assumption) ?_
        conv => arg 8; simp only [List.getElem_toArray, List.getElem_cons_zero, List.getElem_cons_succ, Act.put, List.setIfInBounds_toArray, List.set_cons_zero, List.set_cons_succ]
        refine wpAnyH_take (i := 27) (v := undef) rfl (by kernel_rfl) (by kernel_rfl) (by kernel_rfl) (fun _ _ _ h => h) (Or.inr ⟨by rfl, rfl⟩) (by assumption) ?_
        conv => arg 8; simp only [List.getElem_toArray, List.getElem_cons_zero, List.getElem_cons_succ, Act.put, List.setIfInBounds_toArray, List.set_cons_zero, List.set_cons_succ]
        refine wpAnyH_take (i := 28) (v := ?_) rfl (by kernel_rfl) (by kernel_rfl) (by kernel_rfl) (fun _ _ _ h => h) (Or.inl ⟨by rfl, ?_⟩) (by assumption) ?_
        rotate_left
        · (intro w hSw; (try dsimp only at hSw); go_simp; try with_reducible rfl)
        conv => arg 8; simp only [List.getElem_toArray, List.getElem_cons_zero, List.getElem_cons_succ, Act.put, List.setIfInBounds_toArray, List.set_cons_zero, List.set_cons_succ]
        refine wpAnyH_done (by kernel_rfl) ?_ _
        go_wp2_with fail
        go_meet
        exact ⟨by first | (rw [hrr]; rfl) | (rw [hrr, ← hr2]; rfl), (Below.refl _ _).drew.trans HB5.out⟩
    case rest =>
      obtain ⟨rfl, hbel⟩ := hcut
      obtain ⟨wd, rfl⟩ : ∃ wd : World, wd = wc := ⟨_, rfl⟩
      have HBW := Lib.hid hbel
      have d1 := (hbel.cell (p := ⟨b, 1, none⟩) hbw).trans C1.out
      have d3 := (hbel.cell (p := ⟨g, j * 2 + 1, none⟩) hg).trans G2.out
      have hrow : Hid (openRow n T L label c = if r then tx else []) := Lib.hid <| by
        rcases r with _ | _
        · rw [openRow, HR.out]; rfl
        · exact E2.out HR.out
      clear hbel hrr hr1 hr2 hmm c0 c1 g1 K0 KS
      rcases r with _ | _
      · go_wp2_with fail
        go_ret2
        exact ⟨_, fun _ => False, rfl, by rw [hrow.out]; exact R8.nil _, fun _ h => h.elim, HBW.out⟩
      · have kb := fun (w : World) (s : ByteArray) => run_bytes_of_string (P := Try.prog) w 9 23 5 s Try.underlying9 Try.underlying23 Try.underlying5
        go_wp2
        go_ret2
        obtain ⟨F8, hr8, hF8⟩ := R8.was wd tx (grownCap wd s.size 0 5) s HSX.out (grownCap_ge _ _ _ _) ((bytesRow s (grownCap wd s.size 0 5)).size, (bytesRow s (grownCap wd s.size 0 5)).size + 1) (Nat.le_refl _)
        refine ⟨_, rfl, F8, ?_, fun k hk => Nat.le_trans HBW.out.size (hF8 k hk), (HBW.out.alloc HBW.out.size _).drew⟩
        rw [hrow.out]
        exact (R8.stable _ _).keep hr8 (Chg.refl (fun _ => False) _).drew (fun _ _ h => h)
end
section
variable {F0 : Nat → Prop} {w0 w : World} {v : Value} {n : Int} {T : Texts} {L : List (Int × Int)} {R : HP}
theorem Turns.rlen (h : Turns F0 w0 w (star (IsVault v n T L) R)) : Calls Try.prog 22 #[v] w fun e w' => e = .returned (.int .i64 T.length) ∧ w' = w := by
  obtain ⟨F, ⟨A, B, ⟨b, s1, s2, rfl, hp⟩, _⟩, _⟩ := h
  obtain ⟨_, _, c1, _, _, hs, _⟩ := VaultAt.facts (Turns.begin hp).pad
  exact vlen_any c1 hs
theorem Turns.rshares (h : Turns F0 w0 w (star (IsVault v n T L) R)) (c : Int) (hL : L.length ≤ 1000000) (ho : OnlyC T L) :
    Calls Try.prog 21 #[v, .int .i64 c] w fun e w' => ∃ x, e = .returned x ∧ w'.ownsRow w.heap.size 3 1 x (allOf L c).length (cellsI (allOf L c)) ∧ Below w.heap.size w w' := by
  obtain ⟨F, ⟨A, B, ⟨b, s1, s2, rfl, hp⟩, _⟩, _⟩ := h
  obtain ⟨hb, _, c1, c2, _, hs, hps⟩ := VaultAt.facts (Turns.begin hp).pad
  exact vshares_any c hb c1 c2 hs hps hL ho
theorem Turns.rseal (h : Turns F0 w0 w (star (IsVault v n T L) R)) [hR : Stable R] (label : Int) (A : Option Addr) (len cap : Nat) (t : List UInt8) (hT : T.length ≤ 1000000) (ht : t.length = len) (hA : A = none → cap = 0) (hnc : len ≤ cap) (hl : Lie8 w (fun _ => False) A t) :
    Calls Try.prog 17 #[v, .int .i64 label, .slice A len cap] w fun e w' => e = .returned (.int .i64 ((T.length : Int) + 1)) ∧ Turns F0 w0 w' (star (IsVault v n (T ++ [(label, t)]) L) R) := by
  refine (h.call (Q := fun e w' F => e = .returned (.int .i64 ((T.length : Int) + 1)) ∧ IsVault v n (T ++ [(label, t)]) L w' F) (fun F hp => ?_)).mono ?_
  · obtain ⟨b, s1, s2, rfl, hp⟩ := hp
    refine (vseal_any label A len cap t hp hT ht hA hnc hl).mono ?_
    rintro e w' ⟨he, s', F', h1, h2, h3⟩
    exact ⟨F', ⟨he, b, s', s2, rfl, h1⟩, h2, h3⟩
  · rintro e w' hs
    obtain ⟨F, ⟨A', B', ⟨he, hp⟩, r⟩, r2⟩ := hs
    exact ⟨he, F, ⟨A', B', hp, r⟩, r2⟩
theorem Turns.rshare (h : Turns F0 w0 w (star (IsVault v n T L) R)) [hR : Stable R] (who c : Int) (hL : L.length ≤ 1000000) :
    Calls Try.prog 18 #[v, .int .i64 who, .int .i64 c] w fun e w' => e = .returned (.bool (isC T c)) ∧ Turns F0 w0 w' (star (IsVault v n T (shareAdd T L who c)) R) := by
  refine (h.call (Q := fun e w' F => e = .returned (.bool (isC T c)) ∧ IsVault v n T (shareAdd T L who c) w' F) (fun F hp => ?_)).mono ?_
  · obtain ⟨b, s1, s2, rfl, hp⟩ := hp
    refine (vshare_any who c hp hL).mono ?_
    rintro e w' ⟨he, s', F', h1, h2, h3⟩
    exact ⟨F', ⟨he, b, s1, s', rfl, h1⟩, h2, h3⟩
  · rintro e w' hs
    obtain ⟨F, ⟨A', B', ⟨he, hp⟩, r⟩, r2⟩ := hs
    exact ⟨he, F, ⟨A', B', hp, r⟩, r2⟩
theorem Turns.ropen (h : Turns F0 w0 w (star (IsVault v n T L) R)) (label c : Int) (hT : T.length ≤ 1000000) (hL : L.length ≤ 1000000) (ho : OnlyC T L) :
    Calls Try.prog 19 #[v, .int .i64 label, .int .i64 c] w fun e w' => ∃ x F', e = .returned (.tuple #[x, .bool (openOk n T L label c)]) ∧ R8 x (openRow n T L label c) w' F' ∧ (∀ k, F' k → w.heap.size ≤ k) ∧ Below w.heap.size w w' := by
  obtain ⟨F, ⟨A, B, ⟨b, s1, s2, rfl, hp⟩, _⟩, _⟩ := h
  exact vopen_any label c hp hT hL ho
end
end Go.Proofs.Ytdhnpbfoeohhmaa
