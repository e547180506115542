/- The vault's calls keep their contracts: New, Len, Seal, and which text a cipher has. Conditions: a vault that New made, with at most a million ciphers. -/
import Derived.Test.YtdhnpbfoeohhmaaSealSets
import Derived.Deep.RegionLaw
import Derived.Deep.RegionWith
import Derived.Deep.RegionHeld3
import Derived.Deep.CutBlock
import Derived.Deep.DeepCutAuto
import Derived.StillTailTactics
import Derived.WalkSmall
namespace Go.Proofs.Ytdhnpbfoeohhmaa
open Go.RowKit Go.WideShapes

theorem texts_snoc (M : List TextV) (label : Int) (t : List UInt8) : texts (M ++ [(label, t, none)]) = texts M ++ [(label, t)] := by simp [texts]
theorem text_info : (Try.prog.info? 57).map (fun i => (i.zero, i.size, i.bytes)) = some (some (.agg #[.int .i64 0, .string ByteArray.empty, .map none]), 3, 32) := by kernel_rfl
/-- What is read of it. -/
theorem VltAt.facts {F0 : Nat → Prop} {w0 w : World} {b : Nat} {n : Int} {s : Value} {M : List TextV} {L : List (Int × Int)} {R : HP} (h : Turns F0 w0 w (star (VltAt b n s M L) R)) :
    b < w.heap.size ∧ w.cell? ⟨b, 0, none⟩ = some (.int .i64 n) ∧ w.cell? ⟨b, 1, none⟩ = some s ∧ w.frozen? ⟨b, 1, none⟩ = false ∧ w.ownsRow 0 57 3 s M.length (cellsM M) := by
  have h1 := h.assoc
  obtain ⟨_, h2, h3, h4⟩ := Turns.blk h1
  exact ⟨h2, h3 0 _ rfl, h3 1 _ rfl, h4 1, (h1.swap).assoc.rowN⟩
theorem isC_texts (M : List TextV) (c : Int) : isC (texts M) c = decide (1 ≤ c ∧ c ≤ M.length) := by unfold isC; rw [texts_length]
/-- The cells of a text. -/
theorem textM_cells {w : World} {s : Value} {M : List TextV} (hs : w.ownsRow 0 57 3 s M.length (cellsM M)) {j : Nat} (hj : j < M.length) :
    ∃ g cap, s = .slice (some ⟨g, 0, none⟩) M.length cap ∧ g < w.heap.size ∧ w.cell? ⟨g, j * 3, none⟩ = some (.int .i64 M[j].1) ∧ w.cell? ⟨g, j * 3 + 1, none⟩ = some (.string ⟨M[j].2.1.toArray⟩) ∧ w.cell? ⟨g, j * 3 + 2, none⟩ = some (.map M[j].2.2) := by
  obtain ⟨h1, h2, h3⟩ := cellsM_at hj
  obtain ⟨g, cap, e, c1⟩ := rowN_cell hs h1
  have hg := World.block_lt_of_cell? w _ c1
  subst e
  obtain ⟨g2, cap2, e2, c2⟩ := rowN_cell hs h2
  injection e2 with e3 _ e4
  injection e3 with e3
  injection e3 with e3
  subst e3
  obtain ⟨g3, cap3, e5, c3⟩ := rowN_cell hs h3
  injection e5 with e3 _ e4
  injection e3 with e3
  injection e3 with e3
  subst e3
  exact ⟨g, cap, rfl, hg, c1, c2, c3⟩

set_option maxRecDepth 100000 in
set_option maxHeartbeats 4000000 in
theorem vlt_new (w : World) (n : Int) (_hn : I64 n) : Calls Try.prog 9 #[.int .i64 n] w fun e w' => ∃ v F, e = .returned v ∧ IsVlt v n [] [] w' F ∧ (∀ k, F k → w.heap.size ≤ k) ∧ Below w.heap.size w w' := by
  have h0 : St w w (SetsV (blkOf []) []) := ⟨fun _ => False, by have := SetsV.none w; exact this, Chg.refl _ _, fun _ h => h.elim⟩
  have h1 := h0.add (Below.refl _ _) (RowN.none w 57 3) (fun _ h => h.elim)
  have h2 := h1.add (w' := w.alloc (.cells #[.int .i64 (max n 1), .slice none 0 0] 54)) ((Below.refl _ _).alloc (Nat.le_refl _) _) (Blk.made _ _ _) (fun k hk => by rw [hk]; exact Nat.le_refl _)
  have H2 := Lib.hid h2
  clear h0 h1 h2
  go_enter Try.func9, Try.ntmps9
  go_wp2_with fail
  go_ret
  obtain ⟨F, h, hc, hF⟩ := H2.out
  exact ⟨_, F, rfl, ⟨w.heap.size, .slice none 0 0, [], ⟨rfl, rfl, fun _ h => by cases h⟩, h⟩, fun k hk => (hF k hk).elim (fun h => h.elim) id, H2.out.below⟩

section
variable {w : World} {b : Nat} {n : Int} {s : Value} {M : List TextV} {L : List (Int × Int)} {F : Nat → Prop}
set_option maxRecDepth 100000 in
set_option maxHeartbeats 4000000 in
theorem vltlen_any (hc : w.cell? ⟨b, 1, none⟩ = some s) (hs : w.ownsRow 0 57 3 s M.length (cellsM M)) :
    Calls Try.prog 16 #[.pointer (some ⟨b, 0, none⟩)] w fun e w' => e = .returned (.int .i64 M.length) ∧ w' = w := by
  obtain ⟨As, cs, rfl⟩ := rowN_form hs
  clear hs
  go_enter Try.func16, Try.ntmps16
  go_wp2_with fail
  go_ret
  exact ⟨rfl, rfl⟩

set_option maxRecDepth 100000 in
set_option maxHeartbeats 4000000 in
/-- Of a cipher that is none there is no text. -/
theorem vat_no (c : Int) (hc : w.cell? ⟨b, 1, none⟩ = some s) (hs : w.ownsRow 0 57 3 s M.length (cellsM M)) (hno : isC (texts M) c = false) :
    Calls Try.prog 23 #[.pointer (some ⟨b, 0, none⟩), .int .i64 c] w fun e w' => e = .returned (.pointer none) ∧ w' = w := by
  obtain ⟨As, cs, rfl⟩ := rowN_form hs
  clear hs
  rw [isC_texts] at hno
  obtain ⟨nt, hn⟩ : ∃ k, M.length = k := ⟨_, rfl⟩
  rw [hn] at hc hno
  clear hn
  have hno' := of_decide_eq_false hno
  clear hno
  rcases Int.lt_or_le c 1 with hlt | hge
  · have b1 : decide (c < 1) = true := decide_eq_true hlt
    clear hlt hno'
    go_enter Try.func23, Try.ntmps23
    go_wp2_with fail
    go_ret
    exact ⟨rfl, rfl⟩
  · have b1 : decide (c < 1) = false := decide_eq_false (by omega)
    have b2 : decide ((nt : Int) < c) = true := decide_eq_true (by omega)
    clear hge hno'
    go_enter Try.func23, Try.ntmps23
    go_wp2_with fail
    go_ret
    exact ⟨rfl, rfl⟩

set_option maxRecDepth 100000 in
set_option maxHeartbeats 4000000 in
/-- The place of a text. -/
theorem vat_yes {g cap : Nat} (j : Nat) (hT : M.length ≤ 1000000) (hc : w.cell? ⟨b, 1, none⟩ = some (.slice (some ⟨g, 0, none⟩) M.length cap)) (hj : j < M.length) :
    Calls Try.prog 23 #[.pointer (some ⟨b, 0, none⟩), .int .i64 (cip j)] w fun e w' => e = .returned (.pointer (some ⟨g, j * 3, none⟩)) ∧ w' = w := by
  obtain ⟨nt, hn⟩ : ∃ k, M.length = k := ⟨_, rfl⟩
  rw [hn] at hc hT hj
  clear hn
  obtain ⟨c, hcj⟩ : ∃ c : Int, cip j = c := ⟨_, rfl⟩
  rw [hcj]
  unfold cip at hcj
  have b1 : decide (c < 1) = false := decide_eq_false (by omega)
  have b2 : decide ((nt : Int) < c) = false := decide_eq_false (by omega)
  have hd1 : 0 ≤ c - 1 := by omega
  have hd2 : c - 1 < nt := by omega
  have hw : IntKind.i64.wrap (c - 1) = c - 1 := IntWalk.i64_in _ (by omega)
  have hj2 : Hid (c.toNat - 1 = j) := Lib.hid (by omega)
  clear hcj hj hT
  go_enter Try.func23, Try.ntmps23
  go_wp2_with fail
  go_ret
  rw [hj2.out]
  exact ⟨by simp, rfl⟩

theorem textM_new (w : World) (label : Int) (t : List UInt8) (x : ByteArray) (hx : x = ⟨t.toArray⟩) (ty : TypeId) : ∀ j u, (cellsM [(label, t, none)])[j]? = some u → (w.alloc (.cells #[.int .i64 label, .string x, .map none] ty)).cell? ((⟨w.heap.size, 0, none⟩ : Addr).add j) = some u := by
  intro j u hj
  subst hx
  match j, hj with
  | 0, hj => simp [cellsM] at hj; subst hj; simp [Addr.add]
  | 1, hj => simp [cellsM] at hj; subst hj; simp [Addr.add]
  | 2, hj => simp [cellsM] at hj; subst hj; simp [Addr.add]

set_option maxRecDepth 100000 in
set_option maxHeartbeats 4000000 in
theorem vlt_seal (label : Int) (A : Option Addr) (len cap : Nat) (t : List UInt8) (h : VltAt b n s M L w F) (hT : M.length ≤ 1000000) (ht : t.length = len) (hA : A = none → cap = 0) (hnc : len ≤ cap) (hl : Lie8 w (fun _ => False) A t) :
    Calls Try.prog 10 #[.pointer (some ⟨b, 0, none⟩), .int .i64 label, .slice A len cap] w fun e w' => e = .returned (.int .i64 ((M.length : Int) + 1)) ∧ ∃ s', Turns F w w' (VltAt b n s' (M ++ [(label, t, none)]) L) := by
  obtain ⟨i0, hi, hz0, hz1, hz2⟩ := info_parts text_info
  have h0 := Turns.begin h
  obtain ⟨hb, c0, c1, f1, hs⟩ := VltAt.facts h0.pad
  obtain ⟨As, cs, rfl⟩ := rowN_form hs
  obtain ⟨x, hx⟩ : ∃ x : ByteArray, x = ⟨t.toArray⟩ := ⟨_, rfl⟩
  have cv : ∀ q : Nat, (convert 23 9 (.slice A len cap)).run Try.prog (w.drewN q) = .ok (.string x) (w.drewN q) := fun q => by
    rw [hx]; exact conv8 Try.underlying23 Try.underlying5 Try.underlying9 ht (fun h => by have := hA h; omega) (hl.below (below_drewN (Below.refl _ _) q))
  have cv1 : (convert 23 9 (.slice A len cap)).run Try.prog w.drew = .ok (.string x) w.drew := cv 1
  have hst : Turns F w w (star (RowN 57 3 (.slice As M.length cs) M.length (cellsM M)) (star (Blk b #[.int .i64 n, .slice As M.length cs] 54) (SetsV (blkOf M) L))) := h0.swap
  obtain ⟨nt, hn⟩ : ∃ k, M.length = k := ⟨_, rfl⟩
  rw [hn] at hst hs c1 hT ⊢
  have HH := Lib.hid hst; have HS := Lib.hid hs; have HX := Lib.hid hx; have HN := Lib.hid hn
  have m1 : nt + 1 ≤ maxLen := by unfold maxLen; omega
  have m2 : (nt + 1) * 32 ≤ 140737488355328 := by omega
  clear h h0 hst hs hx cv hl c0 hn
  go_enter Try.func10, Try.ntmps10
  go_wp2_with fail
  go_region_law ((refine step_append_here rfl (.tmp 11) (.tmp 16) 52 rfl 0 57 i0 (.agg #[.int .i64 0, .string ByteArray.empty, .map none]) 3 32 Try.underlying52 hi hz0 hz1 hz2 rfl (by decide) (.slice As nt cs) nt (cellsM M) rfl (World.ownsRow.alloc (w := w.drew) HS.out _) ⟨w.heap.size, 0, none⟩ 1 1 (cellsM [(label, t, none)]) rfl rfl (textM_new w.drew label t x HX.out _) (cellsM_one _) m1 m2 (Nat.zero_le _) ?_; intro v' w1 hown hgr hfr; have hk := ((HH.out.drew.alloc _).rowN_grow hown hgr hfr).swap; obtain ⟨g, cap', rfl⟩ := ownN_shape hown (Nat.succ_ne_zero _); obtain ⟨_, lt1, hc1, hf1⟩ := Turns.blk hk; have c11 := hc1 1 _ rfl; have f11 := hf1 1; have H1 := Lib.hid hk; clear hk hown hgr hfr hc1 hf1))
  all_goals
    have h2 := H1.out.blk_set 1 (.slice (some ⟨g, 0, none⟩) (nt + 1) cap')
    have hcc := (Turns.blk h2).2.2.1 1 _ rfl
    have H2 := Lib.hid h2
    clear h2
    go_wp2
    go_ret
    refine ⟨rfl, .slice (some ⟨g, 0, none⟩) (nt + 1) cap', ?_⟩
    have h3 := H2.out
    have e : blkOf (M ++ [(label, t, none)]) = blkOf M := funext fun j => blkOf_snoc M label t j
    rw [VltAt, List.length_append, cellsM_append, HN.out, e]
    exact h3
end
end Go.Proofs.Ytdhnpbfoeohhmaa
