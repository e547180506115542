/- prio's Queue: All: a clone that is sorted. Conditions: its orders lie in memory, unlike; at most a hundred thousand. -/
import Derived.Test.YtkbebllkjmccoaaQueuePlace
namespace Go.Proofs.Ytkbebllkjmccoaa
open Go.RowKit Go.WideShapes

/-- What stands in order, of the same orders, is the queue's row. -/
theorem sorted_is {up : Bool} {L E : Ords} (hg : GoodQ up L) (hp : E.Perm L) (hs : SegS (aheadO up) E 0 E.length) : E = L := by
  have hids : E.Pairwise fun a b => a.id ≠ b.id := (hp.pairwise_iff (fun {a b} hne => Ne.symm hne)).2 hg.ids
  have hpw : E.Pairwise fun a b => aheadO up a b = true := by
    rw [List.pairwise_iff_getElem] at hids ⊢
    intro i j hi hj hij
    have h1 := hs i j (Nat.zero_le _) hij hj
    rw [atL_eq hi, atL_eq hj] at h1
    rw [ahead_total (hids i j hi hj hij), h1]
    rfl
  refine List.Perm.eq_of_pairwise (le := fun a b => aheadO up a b = true) (fun a b _ _ h1 h2 => ?_) hpw hg.sorted hp
  have := (ahead_ord up).asym h1
  rw [h2] at this
  cases this

set_option maxRecDepth 100000 in
set_option maxHeartbeats 4000000 in
theorem clone_any {F0 : Nat → Prop} {w0 w : World} {R : HP} [hR : Stable R] {A : Option Addr} {n cap : Nat} {D : Ords} (h : Turns F0 w0 w (star (RowN 28 5 (.slice A n cap) n (cellsO D)) R)) (hD : D.length = n) (hn : n ≤ 1000000) :
    Calls Try.prog 26 #[.slice A n cap] w fun e w' => ∃ A' cap', e = .returned (.slice A' n cap') ∧ Turns F0 w0 w' (star (RowN 28 5 (.slice A' n cap') n (cellsO D)) (star (RowN 28 5 (.slice A n cap) n (cellsO D)) R)) := by
  rcases A with _ | ⟨g, off, spot⟩
  · have h0 : n = 0 ∧ cap = 0 := by
      rcases h.rowN.2 with ⟨e, h0⟩ | ⟨g, cap', cur, e, _⟩
      · injection e with _ _ e3
        exact ⟨h0, e3⟩
      · cases e
    obtain ⟨rfl, rfl⟩ := h0
    obtain rfl := List.eq_nil_of_length_eq_zero hD
    have H := Lib.hid (h.add (Below.refl _ _) (RowN.none _ 28 5) (fun _ h => h.elim))
    have eqn : ∀ w : World, (binOp .eql 35 (.slice none 0 0) (.slice none 0 0)).run Try.prog w = .ok (.bool true) w := fun w => by kernel_rfl
    clear h
    go_enter Try.func26, Try.ntmps26
    go_wp2_with fail
    go_ret
    exact ⟨none, 0, rfl, H.out⟩
  · have hf : off = 0 ∧ spot = none := by
      rcases h.rowN.2 with ⟨e, _⟩ | ⟨g', cap', cur, e, _⟩
      · cases e
      · injection e with e1 _ _
        injection e1 with e1
        injection e1 with _ e2 e3
        exact ⟨e2, e3⟩
    obtain ⟨rfl, rfl⟩ := hf
    have h3 : Turns F0 w0 (w.alloc (.cells #[] 28)) (star (RowN 28 5 (.slice (some ⟨w.heap.size, 0, none⟩) 0 0) 0 []) _) := h.add (w' := w.alloc (.cells #[] 28)) ((Below.refl _ _).alloc (Nat.le_refl _) _) (F := fun k => (Value.slice (some ⟨w.heap.size, 0, none⟩) 0 0).ownBlock = some k) ⟨World.ownsRow_lit w #[] 0 (Nat.zero_le _) (by unfold maxLen; omega) rfl, fun _ => Iff.rfl⟩ (fun k hk => by simp [Value.ownBlock] at hk; subst hk; exact Nat.le_refl _)
    have hlen : (cellsO D).length = n * 5 := by rw [cellsO_length, hD]
    have hcells : ∀ j u, (cellsO D)[j]? = some u → (w.alloc (.cells #[] 28)).cell? ((⟨g, 0, none⟩ : Addr).add j) = some u := fun j u hj => h3.swap.rowN.cells rfl j u hj
    obtain ⟨ii, hii, hz0, hz1, hz2⟩ := info_parts ord_info
    have eqn : ∀ w : World, (binOp .eql 35 (.slice (some ⟨g, 0, none⟩) n cap) (.slice none 0 0)).run Try.prog w = .ok (.bool false) w := fun w => by kernel_rfl
    have m1 : 0 + n ≤ maxLen := by unfold maxLen; omega
    have m2 : (0 + n) * 40 ≤ 140737488355328 := by omega
    have H3 := Lib.hid h3; have HL := Lib.hid hlen; have HCE := Lib.hid hcells
    clear h h3 hlen hcells
    go_enter Try.func26, Try.ntmps26
    go_wp2_with (at_builtin; go_loud (refine wpList_append_here rfl (.tmp 5) (.tmp 6) 35 rfl 0 28 ii (.agg #[.int .i64 0, .int .i64 0, .bool false, .int .u64 0, .int .u64 0]) 5 40 Try.underlying35 hii hz0 hz1 hz2 rfl (by decide) _ 0 [] rfl H3.out.rowN ⟨g, 0, none⟩ n cap (cellsO D) rfl HL.out HCE.out (cellsO_one _) m1 m2 (Nat.zero_le _) ?_); intro v1 w8 hown hgr hfr; have h9 := H3.out.rowN_grow hown hgr hfr; rw [Nat.zero_add, List.nil_append] at h9; rw [Nat.zero_add] at hown; obtain ⟨A1, c1, rfl⟩ := rowN_form hown; have H9 := Lib.hid h9; clear hown hgr hfr h9)
    go_ret
    exact ⟨A1, c1, rfl, H9.out⟩

theorem sort_any {F0 : Nat → Prop} {w0 w : World} {A : Option Addr} {n cap : Nat} {D : Ords} {R : HP} [hR : Stable R] {qb : Nat} {C : Array Value} {ts : TypeId} {up : Bool} (hC : C[0]? = some (.bool up)) (h : Turns F0 w0 w (star (RowN 28 5 (.slice A n cap) n (cellsO D)) (star (Blk qb C ts) R))) (hD : D.length = n) (hn : n ≤ 1000000) :
    Calls Try.prog 27 #[.slice A n cap, .func (.func 28) #[.pointer (some ⟨qb, 0, none⟩)] #[]] w fun e w' => e = .returned (.tuple #[]) ∧ ∃ E, E.Perm D ∧ SegS (aheadO up) E 0 n ∧ Turns F0 w0 w' (star (RowN 28 5 (.slice A n cap) n (cellsO E)) (star (Blk qb C ts) R)) := by
  have K : Calls Try.prog 33 #[.slice A n cap, .int .i64 n, .func (.func 28) #[.pointer (some ⟨qb, 0, none⟩)] #[]] w fun e w' => e = .returned (.tuple #[]) ∧ ∃ E, E.Perm D ∧ SegS (aheadO up) E 0 n ∧ Turns F0 w0 w' (star (RowN 28 5 (.slice A n cap) n (cellsO E)) (star (Blk qb C ts) R)) := by
    rcases Nat.eq_zero_or_pos n with rfl | hpos
    · exact (stable_nil w _ _).mono fun e w' ⟨he, hw⟩ => by
        subst hw
        exact ⟨he, D, .refl _, fun i j _ _ hj => by omega, h⟩
    · obtain ⟨g, hg⟩ : ∃ g, A = some ⟨g, 0, none⟩ := by
        obtain ⟨g, e, _⟩ := row_ord h.rowN (i := 0) (by omega)
        exact ⟨g, e⟩
      subst hg
      exact (stable_any hC h hD hn).mono fun e w' ⟨he, E, h1, h2, h3⟩ => ⟨he, E, h1.perm, h2, h3⟩
  have K := Lib.hid K
  clear h hC
  go_enter Try.func27, Try.ntmps27
  go_wp2_with fail
  refine K.out.mono ?_
  rintro e w2 ⟨rfl, hr⟩
  have HR := Lib.hid hr
  clear hr
  go_wp2_with fail
  go_end0
  exact ⟨rfl, HR.out⟩

set_option maxRecDepth 100000 in
set_option maxHeartbeats 4000000 in
theorem queue_all {w : World} {p : Addr} {up : Bool} {D L : Ords} {F : Nat → Prop} (h : RankHP p up D w F) (hl : D.length ≤ 1000000) (hg : GoodQ up L) (hp : D.Perm L) :
    Calls Try.prog 13 #[.pointer (some p)] w fun e w' => ∃ x, e = .returned x ∧ Turns F w w' (star (RowN 28 5 x L.length (cellsO L)) (RankHP p up D)) := by
  obtain ⟨b, A, cap, rfl, ht⟩ := h.open'
  obtain ⟨n, hn⟩ : ∃ n, D.length = n := ⟨_, rfl⟩
  have hLn : L.length = n := by rw [← hp.length_eq, hn]
  unfold ORow at ht
  rw [hn] at ht hl
  have K1 := Lib.hid (clone_any ht hn hl)
  obtain ⟨_, _, q, _⟩ := ht.swap.blk
  have q1 := q 1 _ rfl
  have HN := Lib.hid hn; have HLN := Lib.hid hLn; have HP := Lib.hid hp; have HG := Lib.hid hg
  clear h ht q hn hLn hp hg
  go_enter Try.func13, Try.ntmps13
  go_wp2_with fail
  refine K1.out.mono ?_
  rintro e w2 ⟨A', cap', rfl, ht⟩
  have K2 := Lib.hid (sort_any (C := #[.bool up, .slice A n cap]) rfl (ht.imp fun _ => star_mono fun _ => star_swap) HN.out hl)
  clear ht q1
  go_wp2_with fail
  refine K2.out.mono ?_
  rintro e w3 ⟨rfl, E, hp2, hs, ht⟩
  have hE : E = L := sorted_is HG.out (hp2.trans HP.out) (by rw [hp2.length_eq, HN.out]; exact hs)
  subst hE
  have h5 : Turns F w w3 (star (RowN 28 5 (.slice A' n cap') E.length (cellsO E)) (RankHP ⟨b, 0, none⟩ up D)) := by
    rw [HLN.out]
    refine ht.imp fun F' hp => star_mono (fun F'' hq => ?_) hp
    refine ⟨⟨b, A, cap⟩, rfl, ?_⟩
    obtain ⟨X, Y, hx, hy, hd, hF⟩ := hq
    obtain ⟨Y1, Y2, hy1, hy2, hd2, hF2⟩ := hy
    refine ⟨X, Y1, ?_, ?_, fun k hk hk2 => hd k hk ((hF2 k).2 (Or.inl hk2)), fun k => ?_⟩
    · show Blk b #[.bool up, .slice A D.length cap] _ w3 X
      rw [HN.out]; exact hx
    · unfold ORow
      show RowN _ 5 (.slice A D.length cap) D.length _ w3 Y1
      rw [HN.out]; exact hy1
    · rw [hF k, hF2 k]
      exact ⟨fun h => h.imp id (fun h => h.elim id (fun h => (hy2 k h).elim)), fun h => h.imp id Or.inl⟩
  have H5 := Lib.hid h5
  clear h5 ht hp2 hs
  go_wp2_with fail
  go_ret
  exact ⟨_, rfl, H5.out⟩
end Go.Proofs.Ytkbebllkjmccoaa
