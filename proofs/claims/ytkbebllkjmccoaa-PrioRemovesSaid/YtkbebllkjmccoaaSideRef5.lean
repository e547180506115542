/- The document's own side of a book: Drop. Conditions: it lies in memory; good numbers. -/
import Derived.Test.YtkbebllkjmccoaaSideRef4
import Derived.Laws.Rows
namespace Go.Proofs.Ytkbebllkjmccoaa
open Go.RowKit Go.WideShapes

theorem cellsO_take (L : Ords) (k : Nat) : cellsO (L.take k) = (cellsO L).take (k * 5) := by
  induction L generalizing k with
  | nil => simp [cellsO]
  | cons x t ih =>
    rcases k with _ | k
    · simp [cellsO]
    · have e : (k + 1) * 5 = 5 + k * 5 := by omega
      have hx : cellsO (x :: t) = x.cells ++ cellsO t := rfl
      rw [List.take_succ_cons, hx, e, List.take_append]
      have h5 : x.cells.length = 5 := rfl
      rw [h5, Nat.add_sub_cancel_left, ← ih, List.take_of_length_le (l := x.cells) (by rw [h5]; omega)]
      rfl
theorem cellsO_drop (L : Ords) (k : Nat) : cellsO (L.drop k) = (cellsO L).drop (k * 5) := by
  induction L generalizing k with
  | nil => simp [cellsO]
  | cons x t ih =>
    rcases k with _ | k
    · simp [cellsO]
    · have e : (k + 1) * 5 = 5 + k * 5 := by omega
      have hx : cellsO (x :: t) = x.cells ++ cellsO t := rfl
      rw [List.drop_succ_cons, hx, e, List.drop_append]
      have h5 : x.cells.length = 5 := rfl
      rw [h5, Nat.add_sub_cancel_left, ← ih, List.drop_of_length_le (l := x.cells) (by rw [h5]; omega)]
      rfl
section
variable {F0 : Nat → Prop} {w0 w : World} {R : HP} {g off n cap : Nat} {L : Ords}
theorem row_take (h : w.ownsRow 0 28 5 (.slice (some ⟨g, 0, none⟩) n cap) n (cellsO L)) (k : Nat) : ∀ j u, (cellsO (L.take k))[j]? = some u → w.cell? ((⟨g, 0, none⟩ : Addr).add j) = some u := fun j u hj => by
  refine h.cells rfl j u ?_
  rw [cellsO_take, List.getElem?_take] at hj
  split at hj
  · exact hj
  · cases hj
theorem row_drop (h : w.ownsRow 0 28 5 (.slice (some ⟨g, 0, none⟩) n cap) n (cellsO L)) (k : Nat) : ∀ j u, (cellsO (L.drop k))[j]? = some u → w.cell? ((⟨g, k * 5, none⟩ : Addr).add j) = some u := fun j u hj => by
  rw [cellsO_drop, List.getElem?_drop] at hj
  have := h.cells rfl _ u hj
  have e : (⟨g, k * 5, none⟩ : Addr).add j = (⟨g, 0, none⟩ : Addr).add (k * 5 + j) := by
    by_cases h1 : j = 0
    · subst h1
      by_cases h2 : k = 0
      · subst h2; rfl
      · simp [Addr.add]; omega
    · simp [Addr.add, h1]
  rw [e]
  exact this
end

theorem ord_size (w : World) : (sizeOf 28).run Try.prog w = .ok 5 w := by
  obtain ⟨i, hi, _, h1, _⟩ := info_parts ord_info
  simp [sizeOf, run_typeInfo w hi, h1]
theorem slice_head {g n cap i : Nat} (hi : i ≤ cap) (w : World) : (Instr.slice 35 (.slice (some ⟨g, 0, none⟩) n cap) none (some (.int .i64 (i : Nat))) none).run Try.prog w = .ok (.slice (some ⟨g, 0, none⟩) i cap) w := by
  simp [Instr.slice, run_underlying Try.underlying35, Instr.sliceBounds, Instr.sliceBound, asIntOf, go_sem, Addr.add]
  intro h
  omega
theorem slice_tail {g n cap i : Nat} (hi : i + 1 ≤ n) (hn : n ≤ cap) : ∃ ad : Addr, (ad = ⟨g, (i + 1) * 5, none⟩ ∨ n = i + 1) ∧ ∀ w : World, (Instr.slice 35 (.slice (some ⟨g, 0, none⟩) n cap) (some (.int .i64 ((i : Nat) + 1))) none none).run Try.prog w = .ok (.slice (some ad) (n - (i + 1)) (cap - (i + 1))) w := by
  have e : ((i : Nat) : Int) + 1 ≤ ((n : Nat) : Int) := by omega
  have e0 : 0 ≤ ((i : Nat) : Int) + 1 := by omega
  have e1 : (((i : Nat) : Int) + 1).toNat = i + 1 := by omega
  by_cases hc : cap = i + 1
  · refine ⟨⟨g, 0, none⟩, Or.inr (by omega), fun w => ?_⟩
    simp [Instr.slice, run_underlying Try.underlying35, Instr.sliceBounds, Instr.sliceBound, asIntOf, go_sem, ord_size w, e, e0, e1, hc]
  · refine ⟨⟨g, (i + 1) * 5, none⟩, Or.inl rfl, fun w => ?_⟩
    simp [Instr.slice, run_underlying Try.underlying35, Instr.sliceBounds, Instr.sliceBound, asIntOf, go_sem, ord_size w, e, e0, e1, hc, Addr.add]

set_option maxRecDepth 100000 in
set_option maxHeartbeats 16000000 in
theorem rdrop_any {F0 : Nat → Prop} {w0 w : World} {b off : Nat} {C : Array Value} {ts : TypeId} {s : Value} {L : Ords} {R : HP} [hR : Stable R] (i : Nat) (h : Turns F0 w0 w (SideHP b C ts s L R)) (hs : C[off + 1]? = some s) (hl : L.length ≤ 100000) (hi : i < L.length) :
    Calls Try.prog 17 #[.pointer (some ⟨b, off, none⟩), .int .i64 i] w fun e w' => e = .returned L[i].val ∧ ∃ s', Turns F0 w0 w' (SideHP b (C.setIfInBounds (off + 1) s') ts s' (L.take i ++ L.drop (i + 1)) R) := by
  obtain ⟨A, cap, rfl⟩ := rowN_form h.swap.rowN
  obtain ⟨g, rfl, _, _⟩ := row_ord h.swap.rowN hi
  obtain ⟨⟨x1, x2, x3, x4, x5⟩, hx⟩ : ∃ x, L[i] = x := ⟨_, rfl⟩
  rw [hx]
  obtain ⟨n, hn⟩ : ∃ n, L.length = n := ⟨_, rfl⟩
  obtain ⟨b4, hb4, h1⟩ := h.local5 #[.int .i64 0, .int .i64 0, .bool false, .int .u64 0, .int .u64 0] 28
  obtain ⟨b5, hb5, h2⟩ := h1.local5 #[.int .i64 x1, .int .i64 x2, .bool x3, .int .u64 x4, .int .u64 x5] 28
  have f0 : ∀ w', Turns F0 w0 w' (SideHP b C ts (.slice (some ⟨g, 0, none⟩) L.length cap) L R) → (w'.cell? ⟨b, off + 1, none⟩ = some (.slice (some ⟨g, 0, none⟩) n cap) ∧ w'.cell? ⟨g, i * 5, none⟩ = some (.int .i64 x1) ∧ w'.cell? ⟨g, i * 5 + 1, none⟩ = some (.int .i64 x2) ∧ w'.cell? ⟨g, i * 5 + 2, none⟩ = some (.bool x3) ∧ w'.cell? ⟨g, i * 5 + 3, none⟩ = some (.int .u64 x4) ∧ w'.cell? ⟨g, i * 5 + 4, none⟩ = some (.int .u64 x5)) := fun w' h => by
    obtain ⟨_, _, qb, _⟩ := h.blk
    obtain ⟨g', e, _, d0, d1, d2, d3, d4⟩ := row_ord h.swap.rowN hi
    injection e with e
    injection e with e _ _
    subst e
    rw [hx] at d0 d1 d2 d3 d4
    rw [hn] at hs
    exact ⟨qb (off + 1) _ hs, d0, d1, d2, d3, d4⟩
  obtain ⟨t0, t1, t2, t3, t4, t5⟩ := f0 _ (h.alloc (.cells #[.int .i64 0, .int .i64 0, .bool false, .int .u64 0, .int .u64 0] 28))
  unfold SideHP at h2
  rw [hn] at h2
  have h2 := h2.flip4
  have hf : ∀ (w' : World) (Q : HP), Turns F0 w0 w' (star (Blk b C ts) Q) → w'.cell? ⟨b, off + 1, none⟩ = some (.slice (some ⟨g, 0, none⟩) n cap) ∧ w'.frozen? ⟨b, off + 1, none⟩ = false := fun w' Q h => by
    obtain ⟨_, _, qb, zb⟩ := h.blk
    rw [hn] at hs
    exact ⟨qb _ _ hs, zb _⟩
  have HF := Lib.hid hf
  clear hf
  have H2 := Lib.hid h2; have HS := Lib.hid hs; have HN := Lib.hid hn
  rw [hn] at hi hl
  have i1 : ((i : Nat) : Int) < ((n : Nat) : Int) := by omega
  have i2 : IntKind.i64.wrap (((i : Nat) : Int) + 1) = ((i : Nat) : Int) + 1 := IntWalk.i64_in _ (by omega)
  have hcap : n ≤ cap := by
    rcases h.swap.rowN.2 with ⟨e, _⟩ | ⟨g', cap', cur, e, _, _, hnc, _⟩
    · cases e
    · injection e with _ e1 e2
      omega
  have q1 : ∀ w : World, (Instr.slice 35 (.slice (some ⟨g, 0, none⟩) n cap) none (some (.int .i64 (i : Nat))) none).run Try.prog w = .ok (.slice (some ⟨g, 0, none⟩) i cap) w := slice_head (by omega)
  obtain ⟨ad, had, q2⟩ := slice_tail (g := g) (show i + 1 ≤ n by omega) hcap
  obtain ⟨ii, hii, hz0, hz1, hz2⟩ := info_parts ord_info
  have m1 : 0 + i ≤ maxLen := by unfold maxLen; omega
  have m2 : (0 + i) * 40 ≤ 140737488355328 := by omega
  have m3 : i + (n - (i + 1)) ≤ maxLen := by unfold maxLen; omega
  have m4 : (i + (n - (i + 1))) * 40 ≤ 140737488355328 := by omega
  have HAD := Lib.hid had
  clear h h1 h2 f0 hs hn hx had
  simp only [OrdV.val]
  go_enter Try.func17, Try.ntmps17
  go_upto_region 2 with fail
  generalize (w.alloc (.cells #[.int .i64 0, .int .i64 0, .bool false, .int .u64 0, .int .u64 0] 28)).alloc (.cells #[.int .i64 x1, .int .i64 x2, .bool x3, .int .u64 x4, .int .u64 x5] 28) = w2 at H2 ⊢
  have e5 : b5 = w.heap.size + 1 := by rw [hb5, World.size_alloc]
  rw [← e5, ← hb4]
  clear hb4 hb5 e5 t0 t1 t2 t3 t4 t5
  have h3 : Turns F0 w0 (w2.drew.alloc (.cells #[] 28)) (star (RowN 28 5 (.slice (some ⟨w2.heap.size, 0, none⟩) 0 0) 0 []) _) := H2.out.drew.add (w' := w2.drew.alloc (.cells #[] 28)) ((Below.refl _ _).alloc (Nat.le_refl _) _) (F := fun k => (Value.slice (some ⟨w2.heap.size, 0, none⟩) 0 0).ownBlock = some k) ⟨World.ownsRow_lit w2.drew #[] 0 (Nat.zero_le _) (by unfold maxLen; omega) rfl, fun _ => Iff.rfl⟩ (fun k hk => by simp [Value.ownBlock] at hk; subst hk; exact Nat.le_refl _)
  have H3 := Lib.hid h3
  have l1 : (cellsO (L.take i)).length = i * 5 := by rw [cellsO_length, List.length_take, HN.out, Nat.min_eq_left (by omega)]
  have l2 : (cellsO (L.drop (i + 1))).length = (n - (i + 1)) * 5 := by rw [cellsO_length, List.length_drop, HN.out]
  have L1 := Lib.hid l1; have L2 := Lib.hid l2
  have e0 := HF.out _ _ H2.out.drew
  have ea := HF.out _ _ H3.out.snd
  clear h3 l1 l2
  obtain ⟨e0, z0⟩ := e0
  obtain ⟨ea, za⟩ := ea
  obtain ⟨eb, zb⟩ := HF.out _ _ (H2.out.alloc (.cells #[] 28))
  obtain ⟨ec, zc⟩ := HF.out _ _ H2.out
  go_region_law (first
    | (refine step_append_here rfl (.tmp 14) (.tmp 20) 35 rfl 0 28 ii (.agg #[.int .i64 0, .int .i64 0, .bool false, .int .u64 0, .int .u64 0]) 5 40 Try.underlying35 hii hz0 hz1 hz2 rfl (by decide) _ 0 [] rfl H3.out.rowN ⟨g, 0, none⟩ i cap (cellsO (L.take i)) rfl L1.out (row_take H3.out.third.rowN i) (cellsO_one _) m1 m2 (Nat.zero_le _) ?_; intro v1 w8 hown hgr hfr; have h21 := H3.out.rowN_grow hown hgr hfr; rw [Nat.zero_add, List.nil_append] at h21; rw [Nat.zero_add] at hown; obtain ⟨A1, c1, rfl⟩ := rowN_form hown; obtain ⟨e1, z1⟩ := HF.out _ _ h21.snd; have H21 := Lib.hid h21; clear hown hgr hfr h21)
    | (refine step_append_here rfl (.tmp 21) (.tmp 28) 35 rfl 0 28 ii (.agg #[.int .i64 0, .int .i64 0, .bool false, .int .u64 0, .int .u64 0]) 5 40 Try.underlying35 hii hz0 hz1 hz2 rfl (by decide) _ i (cellsO (L.take i)) rfl H21.out.rowN ad (n - (i + 1)) (cap - (i + 1)) (cellsO (L.drop (i + 1))) rfl L2.out (by rcases HAD.out with rfl | he; exact row_drop H21.out.third.rowN (i + 1); intro j u hj; rw [List.drop_of_length_le (by rw [HN.out]; omega)] at hj; simp [cellsO] at hj) (cellsO_one _) m3 m4 (Nat.zero_le _) ?_; intro v2 w9 hown hgr hfr; have h29 := H21.out.rowN_grow hown hgr hfr; obtain ⟨A2, c2, rfl⟩ := rowN_form hown; obtain ⟨e2, z2⟩ := HF.out _ _ h29.snd; have H29 := Lib.hid h29; clear hown hgr hfr h29))
  all_goals
    have h10 := H29.out.swap.blk_set (off + 1) (.slice A2 (i + (n - (i + 1))) c2)
    generalize w9.setCell ⟨b, off + 1, none⟩ (.slice A2 (i + (n - (i + 1))) c2) = w10 at h10 ⊢
    have h11 := h10.flip4.snd
    obtain ⟨_, _, q5, _⟩ := h11.blk
    have y0 := q5 0 _ rfl
    have y1 := q5 1 _ rfl
    have y2 := q5 2 _ rfl
    have y3 := q5 3 _ rfl
    have y4 := q5 4 _ rfl
    have h12 := h11.snd.third
    obtain ⟨⟨u0, v0⟩, ⟨u1, v1⟩, ⟨u2, v2⟩, ⟨u3, v3⟩, ⟨u4, v4⟩, h13⟩ := Turns.store5 (o := ⟨0, 0, false, 0, 0⟩) h12 ⟨x1, x2, x3, x4, x5⟩
    have H13 := Lib.hid h13
    obtain ⟨hblk, _, q4, _⟩ := h13.blk
    have p0 := q4 0 _ rfl
    have p1 := q4 1 _ rfl
    have p2 := q4 2 _ rfl
    have p3 := q4 3 _ rfl
    have p4 := q4 4 _ rfl
    clear h10 h11 h12 h13 q5 q4 e0 z0 ea za eb zb ec zc e1 z1 e2 z2 m1 m2 m3 m4 hii hz0 hz1 hz2 i1 i2 q1 q2
    go_wp2_with fail
    refine bodyPost_ret (v := .agg #[.int .i64 x1, .int .i64 x2, .bool x3, .int .u64 x4, .int .u64 x5]) (results_cell_row rfl _ _ b4 _ _ (0, 0) _ rfl hblk Try.underlying28 rfl (by kernel_rfl)) rfl ?_
    refine ⟨rfl, .slice A2 (i + (n - (i + 1))) c2, ?_⟩
    have hlen : (L.take i ++ L.drop (i + 1)).length = i + (n - (i + 1)) := by rw [List.length_append, List.length_take, List.length_drop, HN.out, Nat.min_eq_left (by omega)]
    unfold SideHP
    rw [hlen, cellsO_append]
    exact H13.out.snd
end Go.Proofs.Ytkbebllkjmccoaa
