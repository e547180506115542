/- prio's ranks as container/heap asks for them: Push, Pop; and all five together. Conditions: they lie in memory; at most a million orders. -/
import Derived.Test.YtkbebllkjmccoaaRankSwap
namespace Go.Proofs.Ytkbebllkjmccoaa
open Go.RowKit Go.WideShapes

set_option maxRecDepth 100000 in
set_option maxHeartbeats 4000000 in
theorem rank_push {w : World} {p : Addr} {up : Bool} {L : Ords} {F : Nat → Prop} (o : OrdV) (h : RankHP p up L w F) (hl : L.length ≤ 1000000) :
    Calls Try.prog 64 #[.pointer (some p), .iface 28 o.val] w fun e w' => e = .returned (.tuple #[]) ∧ Turns F w w' (RankHP p up (L ++ [o])) := by
  obtain ⟨b, A, cap, rfl, ht⟩ := h.open'
  obtain ⟨o1, o2, o3, o4, o5⟩ := o
  obtain ⟨n, hn⟩ : ∃ n, L.length = n := ⟨_, rfl⟩
  unfold ORow at ht
  rw [hn] at ht hl
  have hf : ∀ (w' : World) (Q : HP), Turns F w w' (star Q (star (Blk b #[.bool up, .slice A n cap] 54) nothing)) → w'.cell? ⟨b, 1, none⟩ = some (.slice A n cap) ∧ w'.frozen? ⟨b, 1, none⟩ = false := fun w' Q h => by
    obtain ⟨_, _, q, z⟩ := h.swap.blk
    exact ⟨q 1 _ rfl, z 1⟩
  have HF := Lib.hid hf
  have hlen : (L ++ [(⟨o1, o2, o3, o4, o5⟩ : OrdV)]).length = n + 1 := by rw [List.length_append, hn]; rfl
  have hta := ht.alloc (.cells #[.int .i64 o1, .int .i64 o2, .bool o3, .int .u64 o4, .int .u64 o5] 28)
  obtain ⟨a1, z1⟩ := hf _ _ ht
  obtain ⟨a2, z2⟩ := hf _ _ ht.drew
  obtain ⟨a3, z3⟩ := hf _ _ hta
  obtain ⟨a4, z4⟩ := hf _ _ hta.drew
  obtain ⟨ii, hii, hz0, hz1, hz2⟩ := info_parts ord_info
  have ta : ∀ w : World, (Instr.typeAssert (.iface 28 (.agg #[.int .i64 o1, .int .i64 o2, .bool o3, .int .u64 o4, .int .u64 o5])) 20 28 false).run Try.prog w = .ok (.agg #[.int .i64 o1, .int .i64 o2, .bool o3, .int .u64 o4, .int .u64 o5]) w := fun w => by kernel_rfl
  have m1 : n + 1 ≤ maxLen := by unfold maxLen; omega
  have m2 : (n + 1) * 40 ≤ 140737488355328 := by omega
  have HTA := Lib.hid hta.drew
  have HLEN := Lib.hid hlen
  have HON := Lib.hid (ord_new w.drew ⟨o1, o2, o3, o4, o5⟩ 28)
  clear hf ht hta hlen h hn
  simp only [OrdV.val]
  go_enter Try.func64, Try.ntmps64
  go_upto_region 0 with fail
  go_region_law (go_loud (refine step_append_here rfl (.tmp 8) (.tmp 11) 35 rfl 0 28 ii (.agg #[.int .i64 0, .int .i64 0, .bool false, .int .u64 0, .int .u64 0]) 5 40 Try.underlying35 hii hz0 hz1 hz2 rfl (by decide) _ n (cellsO L) rfl HTA.out.rowN ⟨w.heap.size, 0, none⟩ 1 1 (cellsO [⟨o1, o2, o3, o4, o5⟩]) rfl rfl HON.out (cellsO_one _) m1 m2 (Nat.zero_le _) ?_; intro v1 w8 hown hgr hfr; have h9 := HTA.out.rowN_grow hown hgr hfr; obtain ⟨A1, c1, rfl⟩ := rowN_form hown; obtain ⟨e1, y1⟩ := HF.out _ _ h9; have H9 := Lib.hid h9; clear hown hgr hfr h9))
  all_goals
    have h10 := H9.out.swap.blk_set 1 (.slice A1 (n + 1) c1)
    have H10 := Lib.hid (RankHP.shut' (up := up) HLEN.out (by rw [cellsO_append]; exact h10.swap))
    clear h10
    go_wp2_with fail
    go_end0
    exact ⟨rfl, H10.out⟩

theorem rowN_less {w : World} {B n sz m : Nat} {te : TypeId} {A : Option Addr} {cap : Nat} {xs : List Value} (h : w.ownsRow B te sz (.slice A n cap) n xs) (hm : m ≤ n) (hs : A = none → m = 0 ∧ cap = 0) : w.ownsRow B te sz (.slice A m cap) m (xs.take (m * sz)) := by
  have hmul : m * sz ≤ n * sz := Nat.mul_le_mul_right sz hm
  refine ⟨by rw [List.length_take, h.1]; omega, ?_⟩
  rcases h.2 with ⟨e, _⟩ | ⟨g, cap', cur, e, hb, hh, hnc, hcm, hcs, htk⟩
  · injection e with e1 e2 e3
    obtain ⟨rfl, rfl⟩ := hs e1
    subst e1
    exact Or.inl ⟨rfl, rfl⟩
  · injection e with e1 e2 e3
    subst e1; subst e3
    refine Or.inr ⟨g, cap, cur, rfl, hb, hh, by omega, hcm, hcs, ?_⟩
    rw [← htk, List.take_take, Nat.min_eq_left hmul]
theorem ords_take (L : Ords) (o : OrdV) : (cellsO (L ++ [o])).take (L.length * 5) = cellsO L := by
  rw [cellsO_append, List.take_append_of_le_length (by rw [cellsO_length]; exact Nat.le_refl _), ← cellsO_length, List.take_length]

set_option maxRecDepth 100000 in
set_option maxHeartbeats 4000000 in
theorem rank_pop {w : World} {p : Addr} {up : Bool} {L : Ords} {F : Nat → Prop} (o : OrdV) (h : RankHP p up (L ++ [o]) w F) (hl : L.length ≤ 1000000) :
    Calls Try.prog 63 #[.pointer (some p)] w fun e w' => e = .returned (.iface 28 o.val) ∧ Turns F w w' (RankHP p up L) := by
  obtain ⟨b, A, cap, rfl, ht⟩ := h.open'
  have hlt : L.length < (L ++ [o]).length := by simp
  obtain ⟨g, hg⟩ : ∃ g, A = some ⟨g, 0, none⟩ := by
    obtain ⟨g, e, _⟩ := row_ord ht.rowN hlt
    exact ⟨g, e⟩
  subst hg
  obtain ⟨g1, e1, _, d0, d1, d2, d3, d4⟩ := row_ord ht.rowN hlt
  injection e1 with e1
  injection e1 with e1 _ _
  subst e1
  have hlast : (L ++ [o])[L.length] = o := by simp
  rw [hlast] at d0 d1 d2 d3 d4
  obtain ⟨m, hm⟩ : ∃ m, L.length = m := ⟨_, rfl⟩
  have hlen : (L ++ [o]).length = m + 1 := by simp [hm]
  unfold ORow at ht
  rw [hlen] at ht
  rw [hm] at d0 d1 d2 d3 d4
  have hcap : m + 1 ≤ cap := by
    rcases ht.rowN.2 with ⟨e, _⟩ | ⟨g', cap', cur, e, _, _, hnc, _⟩
    · cases e
    · injection e with _ e1 e2
      omega
  obtain ⟨o1, o2, o3, o4, o5⟩ := o
  simp only at d0 d1 d2 d3 d4
  obtain ⟨bo, hbo, h1⟩ := ht.local5 #[.int .i64 o1, .int .i64 o2, .bool o3, .int .u64 o4, .int .u64 o5] 28
  have hf : ∀ (w' : World), Turns F w w' (star (RowN 28 5 (.slice (some ⟨g, 0, none⟩) (m + 1) cap) (m + 1) (cellsO (L ++ [⟨o1, o2, o3, o4, o5⟩]))) (star (Blk b #[.bool up, .slice (some ⟨g, 0, none⟩) (m + 1) cap] 54) nothing)) → w'.cell? ⟨b, 1, none⟩ = some (.slice (some ⟨g, 0, none⟩) (m + 1) cap) ∧ w'.frozen? ⟨b, 1, none⟩ = false := fun w' h => by
    obtain ⟨_, _, q, z⟩ := h.swap.blk
    exact ⟨q 1 _ rfl, z 1⟩
  obtain ⟨a1, _⟩ := hf _ ht
  obtain ⟨a2, _⟩ := hf _ h1.snd
  obtain ⟨a3, z3⟩ := hf _ h1.snd.drew
  have z2 := (hf _ h1.snd).2
  have q1 : ∀ w : World, (Instr.slice 35 (.slice (some ⟨g, 0, none⟩) (m + 1) cap) none (some (.int .i64 (m : Nat))) none).run Try.prog w = .ok (.slice (some ⟨g, 0, none⟩) m cap) w := slice_head (by omega)
  have i1 : (m : Int) < ((m + 1 : Nat) : Int) := by omega
  have c1 : ((m + 1 : Nat) : Int) - 1 = (m : Int) := by omega
  have c1' : ((m : Int) + 1) - 1 = (m : Int) := by omega
  have c2 : IntKind.i64.wrap (m : Int) = (m : Int) := IntWalk.i64_in _ (by omega)
  have h2a := h1.third.blk_set 1 (.slice (some ⟨g, 0, none⟩) m cap)
  have h2 := h2a.third'.snd
  have h3 : Turns F w ((w.alloc (.cells #[.int .i64 o1, .int .i64 o2, .bool o3, .int .u64 o4, .int .u64 o5] 28)).setCell ⟨b, 1, none⟩ (.slice (some ⟨g, 0, none⟩) m cap)) (RankHP ⟨b, 0, none⟩ up L) := by
    refine RankHP.shut' (A := some ⟨g, 0, none⟩) (cap := cap) hm ?_
    refine Turns.step (P := RowN 28 5 (.slice (some ⟨g, 0, none⟩) (m + 1) cap) (m + 1) (cellsO (L ++ [⟨o1, o2, o3, o4, o5⟩]))) h2 fun G hp => ⟨G, ⟨?_, fun k => ?_⟩, Chg.refl _ _, fun _ hk => Or.inl hk⟩
    · have := rowN_less hp.1 (m := m) (by omega) (fun e => by cases e)
      rw [← hm, ords_take, hm] at this
      exact this
    · rw [hp.2 k]
      simp [Value.ownBlock]
  obtain ⟨_, _, qo, _⟩ := h2a.swap.blk
  have p0 := qo 0 _ rfl
  have p1 := qo 1 _ rfl
  have p2 := qo 2 _ rfl
  have p3 := qo 3 _ rfl
  have p4 := qo 4 _ rfl
  have H3 := Lib.hid h3
  clear h h1 h2 h2a h3 ht hf qo hlt hlast hlen hm
  subst hbo
  simp only [OrdV.val]
  go_enter Try.func63, Try.ntmps63
  go_wp2_with fail
  go_ret
  exact ⟨rfl, H3.out⟩

/-- All five. -/
def rankIf : HeapIf where
  Hp := RankHP
  stable := fun _ _ _ => inferInstance
  len := fun h _ => rank_len h
  less := fun i j h _ hi hj => rank_less i j h hi hj
  swap := fun i j h _ hi hj => rank_swap i j h hi hj
  push := fun o h hl _ => rank_push o h hl
  pop := fun o h hl => rank_pop o h hl
end Go.Proofs.Ytkbebllkjmccoaa
