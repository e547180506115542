/- prio's Queue as its contracts ask. Conditions: as each contract says. -/
import Derived.Test.YtkbebllkjmccoaaQueuePush
namespace Go.Proofs.Ytkbebllkjmccoaa
open Go.RowKit Go.WideShapes

theorem rank_at {w w1 : World} {p : Addr} {up : Bool} {D : Ords} {F : Nat → Prop} (h : RankHP p up D w F) (hb : Below w.heap.size w w1) : RankHP p up D w1 F :=
  (RankHP.stable p up D).keep h (Chg.of_below (F := fun _ => False) hb) (fun _ _ h => h)

theorem queue_peek {w : World} {v : Value} {up : Bool} {L : Ords} {F : Nat → Prop} (h : QueHP v up L w F) (hg : GoodQ up L) :
    Calls Try.prog 9 #[v] w fun e w' => ∃ o : OrdV, (∀ h t, L = h :: t → o = h) ∧ e = .returned (.tuple #[o.val, .bool (!L.isEmpty)]) ∧ Below w.heap.size w w' := by
  obtain ⟨⟨p, D⟩, ⟨rfl, hp, hh⟩, h⟩ := h
  simp only at hp hh h
  rcases L with _ | ⟨x, t⟩
  · obtain rfl := hp.eq_nil
    refine (ret_peek (P0 := nothing) (P := nothing) (F := fun _ => False) (o := OrdV.zero) (v := false) (fun _ h => h) (fun w1 bz ht => ?_)).mono fun e w' ⟨he, hb⟩ => ⟨OrdV.zero, (fun h t e => by cases e), he, hb.below⟩
    exact (at_none 0 (rank_at h ht.below) (Or.inr (Int.le_refl _))).mono fun e w' ⟨he, hb⟩ => ⟨he, ht.more hb⟩
  · have hd := head_is hg hp hh
    refine (ret_peek (P0 := nothing) (P := nothing) (F := fun _ => False) (o := x) (v := true) (fun _ h => h) (fun w1 bz ht => ?_)).mono fun e w' ⟨he, hb⟩ => ⟨x, (fun h t e => (List.cons.inj e).1), he, hb.below⟩
    have K := at_some 0 (rank_at h ht.below) (by rw [hp.length_eq]; simp)
    rw [hd] at K
    exact K.mono fun e w' ⟨he, hb⟩ => ⟨he, ht.more hb⟩

theorem queue_pop {w : World} {v : Value} {up : Bool} {L : Ords} {F : Nat → Prop} (h : QueHP v up L w F) (hg : GoodQ up L) (hl : L.length ≤ 100000) :
    Calls Try.prog 10 #[v] w fun e w' => e = .returned (.tuple #[(L.headD OrdV.zero).val, .bool (!L.isEmpty)]) ∧ Turns F w w' (QueHP v up L.tail) := by
  obtain ⟨⟨p, D⟩, ⟨rfl, hp, hh⟩, h⟩ := h
  simp only at hp hh h
  rcases L with _ | ⟨x, t⟩
  · obtain rfl := hp.eq_nil
    refine ret_pop (P0 := RankHP p up []) (P := QueHP (.pointer (some p)) up []) (o := OrdV.zero) (v := false) h (fun w1 bz ht => ?_)
    refine ((ht.comm.call (Q := fun e w' F => e = .returned (.tuple #[OrdV.zero.val, .bool false]) ∧ RankHP p up [] w' F) (fun F hp => (take_none 0 hp (Or.inr (Int.le_refl _))).mono ?_)).mono ?_)
    · rintro e w' ⟨he, F', h1, h2⟩
      exact ⟨F', ⟨he, h1⟩, h2⟩
    · rintro e w' ⟨F, ⟨A, B, ⟨he, h3⟩, r⟩, r2⟩
      refine ⟨he, Turns.comm ⟨F, ⟨A, B, ⟨⟨p, []⟩, ⟨rfl, .refl _, fun k _ hk => by simp at hk⟩, h3⟩, r⟩, r2⟩⟩
  · have hd := head_is hg hp hh
    refine ret_pop (P0 := RankHP p up D) (P := QueHP (.pointer (some p)) up t) (o := x) (v := true) h (fun w1 bz ht => ?_)
    refine ((ht.comm.call (Q := fun e w' F => e = .returned (.tuple #[x.val, .bool true]) ∧ QueHP (.pointer (some p)) up t w' F) (fun F hq => ?_)).mono ?_)
    · have K := take_some 0 hq (by rw [hp.length_eq]; simp) (by rw [hp.length_eq]; omega) hh
      rw [hd] at K
      refine K.mono ?_
      rintro e w' ⟨he, L', h1, h2, F', h3, h4⟩
      exact ⟨F', ⟨he, ⟨p, L'⟩, ⟨rfl, (h1.trans hp).cons_inv, h2⟩, h3⟩, h4⟩
    · rintro e w' ⟨F, ⟨A, B, ⟨he, h3⟩, r⟩, r2⟩
      exact ⟨he, Turns.comm ⟨F, ⟨A, B, h3, r⟩, r2⟩⟩

/-- Where one with that ID stands, or -1. -/
def PlaceAt (D : Ords) (id i : Int) : Prop := (i = -1 ∧ ∀ o ∈ D, o.id ≠ id) ∨ ∃ k : Nat, i = k ∧ k < D.length ∧ (atL D k).id = id
theorem place_call {w : World} {p : Addr} {up : Bool} {D : Ords} {F : Nat → Prop} (id : Int) (h : RankHP p up D w F) (hl : D.length ≤ 1000000) :
    Calls Try.prog 29 #[.pointer (some p), .int .i64 id] w fun e w' => ∃ i : Int, e = .returned (.int .i64 i) ∧ PlaceAt D id i ∧ Below w.heap.size w w' := by
  refine (place_any id h hl).mono ?_
  rintro e w' ⟨hb, ⟨rfl, hn⟩ | ⟨k, rfl, hk, hi⟩⟩
  · exact ⟨-1, rfl, Or.inl ⟨rfl, hn⟩, hb⟩
  · exact ⟨k, rfl, Or.inr ⟨k, rfl, hk, hi⟩, hb⟩

theorem queue_find {w : World} {v : Value} {up : Bool} {L : Ords} {F : Nat → Prop} (n : Int) (h : QueHP v up L w F) (hg : GoodQ up L) (hl : L.length ≤ 100000) :
    Calls Try.prog 16 #[v, .int .i64 n] w fun e w' => ∃ o : OrdV, (∀ p, findQ n L = some p → o = p) ∧ e = .returned (.tuple #[o.val, .bool (findQ n L).isSome]) ∧ Below w.heap.size w w' := by
  obtain ⟨⟨p, D⟩, ⟨rfl, hp, hh⟩, h⟩ := h
  simp only at hp hh h
  have hDl : D.length ≤ 1000000 := by rw [hp.length_eq]; omega
  obtain ⟨o, ho⟩ : ∃ o : OrdV, (findQ n L).getD OrdV.zero = o := ⟨_, rfl⟩
  refine (ret_find (P0 := nothing) (P := nothing) (F := fun _ => False) (id := n) (o := o) (v := (findQ n L).isSome) (fun _ h => h) (PlaceAt D n) (fun w1 bz ht => ?_) (fun w1 bz i hi ht => ?_)).mono fun e w' ⟨he, hb⟩ => ⟨o, (fun p hp => by rw [← ho, hp]; rfl), he, hb.below⟩
  · exact (place_call n (rank_at h ht.below) hDl).mono fun e w' ⟨i, he, hi, hb⟩ => ⟨i, he, hi, ht.more hb⟩
  · rcases hi with ⟨rfl, hn⟩ | ⟨k, rfl, hk, hid⟩
    · have hf := find_none_of hp hn
      rw [hf] at ho ⊢
      subst ho
      exact (at_none (-1) (rank_at h ht.below) (Or.inl (by decide))).mono fun e w' ⟨he, hb⟩ => ⟨he, ht.more hb⟩
    · have hf := find_of hg hp (atL_mem hk)
      rw [hid] at hf
      rw [hf] at ho ⊢
      subst ho
      exact (at_some k (rank_at h ht.below) hk).mono fun e w' ⟨he, hb⟩ => ⟨he, ht.more hb⟩

theorem queue_remove {w : World} {v : Value} {up : Bool} {L : Ords} {F : Nat → Prop} (n : Int) (h : QueHP v up L w F) (hg : GoodQ up L) (hl : L.length ≤ 100000) :
    Calls Try.prog 14 #[v, .int .i64 n] w fun e w' => ∃ o : OrdV, (∀ p, findQ n L = some p → o = p) ∧ e = .returned (.tuple #[o.val, .bool (findQ n L).isSome]) ∧ Turns F w w' (QueHP v up (rmQ n L)) := by
  obtain ⟨⟨p, D⟩, ⟨rfl, hp, hh⟩, h⟩ := h
  simp only at hp hh h
  have hDl : D.length ≤ 900000 := by rw [hp.length_eq]; omega
  obtain ⟨o, ho⟩ : ∃ o : OrdV, (findQ n L).getD OrdV.zero = o := ⟨_, rfl⟩
  refine (ret_remove (P0 := RankHP p up D) (P := QueHP (.pointer (some p)) up (rmQ n L)) (id := n) (o := o) (v := (findQ n L).isSome) h (PlaceAt D n) (fun w1 bz ht => ?_) (fun w1 bz i hi ht => ?_)).mono fun e w' ⟨he, hb⟩ => ⟨o, (fun p hp => by rw [← ho, hp]; rfl), he, hb⟩
  · have ht' := ht
    obtain ⟨F', ⟨A, B, _, hq, _⟩, _⟩ := ht
    exact (place_call n hq (by omega)).mono fun e w' ⟨i, he, hi, hb⟩ => ⟨i, he, hi, ht'.more hb⟩
  · rcases hi with ⟨rfl, hn⟩ | ⟨k, rfl, hk, hid⟩
    · have hf := find_none_of hp hn
      rw [rm_none_of hp hn]
      rw [hf] at ho ⊢
      subst ho
      refine ((ht.comm.call (Q := fun e w' F => e = .returned (.tuple #[OrdV.zero.val, .bool false]) ∧ RankHP p up D w' F) (fun F hp => (take_none (-1) hp (Or.inl (by decide))).mono ?_)).mono ?_)
      · rintro e w' ⟨he, F', h1, h2⟩
        exact ⟨F', ⟨he, h1⟩, h2⟩
      · rintro e w' ⟨F, ⟨A, B, ⟨he, h3⟩, r⟩, r2⟩
        exact ⟨he, Turns.comm ⟨F, ⟨A, B, ⟨⟨p, D⟩, ⟨rfl, hp, hh⟩, h3⟩, r⟩, r2⟩⟩
    · have hf := find_of hg hp (atL_mem hk)
      rw [hid] at hf
      rw [hf] at ho ⊢
      subst ho
      refine ((ht.comm.call (Q := fun e w' F => e = .returned (.tuple #[(atL D k).val, .bool true]) ∧ QueHP (.pointer (some p)) up (rmQ n L) w' F) (fun F hq => (take_some k hq hk hDl hh).mono ?_)).mono ?_)
      · rintro e w' ⟨he, L', h1, h2, F', h3, h4⟩
        have := rm_of hg (h1.trans hp)
        rw [hid] at this
        exact ⟨F', ⟨he, ⟨p, L'⟩, ⟨rfl, this, h2⟩, h3⟩, h4⟩
      · rintro e w' ⟨F, ⟨A, B, ⟨he, h3⟩, r⟩, r2⟩
        exact ⟨he, Turns.comm ⟨F, ⟨A, B, h3, r⟩, r2⟩⟩

theorem cellsO_cut (x : OrdV) (t : Ords) (q : Int) : (cellsO (x :: t)).set 4 (.int .u64 q) = cellsO ({ x with qty := q } :: t) := by
  simp [cellsO, OrdV.cells]

set_option maxRecDepth 100000 in
set_option maxHeartbeats 4000000 in
theorem rank_cut {w : World} {p : Addr} {up : Bool} {D : Ords} {F : Nat → Prop} (n : Int) (h : RankHP p up D w F) (hn : U64 n) (hok : ∀ o ∈ D, o.ok) :
    Calls Try.prog 15 #[.pointer (some p), .int .u64 n] w fun e w' => e = .returned (.tuple #[]) ∧ Turns F w w' (RankHP p up (cutQ n D)) := by
  rcases D with _ | ⟨⟨x1, x2, x3, x4, x5⟩, t⟩
  · have K : Calls Try.prog 23 #[.pointer (some p), .int .i64 0] w fun e w' => e = .returned (.tuple #[OrdV.zero.val, .bool false]) ∧ Turns F w w' (RankHP p up []) := (at_none 0 h (Or.inr (Int.le_refl _))).mono fun e w' ⟨he, hb⟩ => ⟨he, (Turns.begin h).more hb⟩
    simp only [OrdV.val, OrdV.zero] at K
    have K := Lib.hid K
    clear h hok
    go_enter Try.func15, Try.ntmps15
    go_wp2_with fail
    refine K.out.mono ?_
    rintro e w2 ⟨rfl, ht⟩
    have H := Lib.hid (ht.alloc (.cells #[.int .i64 0, .int .i64 0, .bool false, .int .u64 0, .int .u64 0] 28))
    clear ht
    go_wp2_with fail
    (try simp only [Exit.inBlock, Exit.then])
    refine bodyPost_ret (results_none rfl _ _ _) rfl ?_
    exact ⟨rfl, H.out⟩
  · have hq : U64 x5 := (hok _ (List.mem_cons_self ..)).2.2.2
    have K : Calls Try.prog 23 #[.pointer (some p), .int .i64 0] w fun e w' => e = .returned (.tuple #[OrdV.val ⟨x1, x2, x3, x4, x5⟩, .bool true]) ∧ Turns F w w' (RankHP p up (⟨x1, x2, x3, x4, x5⟩ :: t)) := (at_some 0 h (by simp)).mono fun e w' ⟨he, hb⟩ => ⟨he, (Turns.begin h).more hb⟩
    simp only [OrdV.val] at K
    have K := Lib.hid K
    rw [cutQ_cons]
    simp only
    obtain ⟨b, hpb⟩ : ∃ b, p = ⟨b, 0, none⟩ := by
      obtain ⟨b, _, _, hp, _⟩ := h.open'
      exact ⟨b, hp⟩
    subst hpb
    clear h hok
    by_cases hc : n ≤ x5
    · rw [if_pos hc]
      have b1 : ¬ x5 < n := by omega
      have c1 : IntKind.u64.wrap (x5 - n) = x5 - n := IntWalk.u64_in _ (by have := hq.2; have := hn.1; omega)
      clear hq hn
      go_enter Try.func15, Try.ntmps15
      go_wp2_with fail
      refine K.out.mono ?_
      rintro e w2 ⟨rfl, ht⟩
      obtain ⟨bo, hbo, h3⟩ := ht.local5 #[.int .i64 x1, .int .i64 x2, .bool x3, .int .u64 x4, .int .u64 x5] 28
      obtain ⟨_, _, q, _⟩ := h3.blk
      have q4 := q 4 _ rfl
      have ha := h3.snd
      clear q h3 ht
      have hx : ∃ A cap, Turns F w (w2.alloc (.cells #[.int .i64 x1, .int .i64 x2, .bool x3, .int .u64 x4, .int .u64 x5] 28)) (star (ORow A cap (⟨x1, x2, x3, x4, x5⟩ :: t)) (star (Blk b #[.bool up, .slice A (⟨x1, x2, x3, x4, x5⟩ :: t : Ords).length cap] 54) nothing)) := by
        obtain ⟨F', hr, r⟩ := ha
        obtain ⟨⟨b', A, cap⟩, hb', hs⟩ := hr
        injection hb' with hb' _ _
        simp only at hb' hs
        subst hb'
        exact ⟨A, cap, (Turns.pad ⟨F', hs, r⟩).assoc.swap⟩
      obtain ⟨A, cap, hx⟩ := hx
      clear ha
      obtain ⟨m, hm⟩ : ∃ m, (⟨x1, x2, x3, x4, x5⟩ :: t : Ords).length = m := ⟨_, rfl⟩
      have hm0 : 0 < m := by rw [← hm]; simp
      obtain ⟨g, hg⟩ : ∃ g, A = some ⟨g, 0, none⟩ := by
        obtain ⟨g, e, _⟩ := row_ord hx.rowN (i := 0) (by simp)
        exact ⟨g, e⟩
      subst hg
      unfold ORow at hx
      rw [hm] at hx
      obtain ⟨_, _, q, _⟩ := hx.swap.blk
      have q1 := q 1 _ rfl
      have d4 : (w2.alloc (.cells #[.int .i64 x1, .int .i64 x2, .bool x3, .int .u64 x4, .int .u64 x5] 28)).cell? ⟨g, 4, none⟩ = some (.int .u64 x5) := by
        obtain ⟨g', cap', e, hc⟩ := rowN_cell hx.rowN (j := 4) (u := .int .u64 x5) (by simp [cellsO, OrdV.cells])
        injection e with e _ _
        injection e with e
        injection e with e _ _
        subst e
        exact hc
      have z4 : (w2.alloc (.cells #[.int .i64 x1, .int .i64 x2, .bool x3, .int .u64 x4, .int .u64 x5] 28)).frozen? ⟨g, 4, none⟩ = false := by
        rcases hx.rowN.2 with ⟨e, _⟩ | ⟨g', cap', cur, e, _, hh, _⟩
        · cases e
        · injection e with e _ _
          injection e with e
          injection e with e _ _
          subst e
          simp [World.frozen?, hh]
      have h5 := hx.rowN_set 4 (.int .u64 (x5 - n))
      rw [cellsO_cut] at h5
      have H5 := Lib.hid (RankHP.shut' (up := up) (by rw [← hm]; simp) h5)
      have i0 : (0 : Int) < (m : Int) := by omega
      clear hx q h5 hm hm0
      subst hbo
      go_wp2_with fail
      go_end0
      exact ⟨rfl, H5.out⟩
    · rw [if_neg hc]
      have b1 : x5 < n := by omega
      clear hq hn
      go_enter Try.func15, Try.ntmps15
      go_wp2_with fail
      refine K.out.mono ?_
      rintro e w2 ⟨rfl, ht⟩
      obtain ⟨bo, hbo, h3⟩ := ht.local5 #[.int .i64 x1, .int .i64 x2, .bool x3, .int .u64 x4, .int .u64 x5] 28
      obtain ⟨_, _, q, _⟩ := h3.blk
      have q4 := q 4 _ rfl
      have H := Lib.hid h3.snd
      clear q h3 ht
      subst hbo
      go_wp2_with fail
      (try simp only [Exit.inBlock, Exit.then])
      refine bodyPost_ret (results_none rfl _ _ _) rfl ?_
      exact ⟨rfl, H.out⟩

theorem queue_cut {w : World} {v : Value} {up : Bool} {L : Ords} {F : Nat → Prop} (n : Int) (h : QueHP v up L w F) (hg : GoodQ up L) (hn : U64 n) :
    Calls Try.prog 15 #[v, .int .u64 n] w fun e w' => e = .returned (.tuple #[]) ∧ Turns F w w' (QueHP v up (cutQ n L)) := by
  obtain ⟨⟨p, D⟩, ⟨rfl, hp, hh⟩, h⟩ := h
  simp only at hp hh h
  refine (rank_cut n h hn (fun o ho => hg.ok o (hp.mem_iff.1 ho))).mono fun e w' ⟨he, ht⟩ => ⟨he, QueHP.shut ?_ ?_ ht⟩
  · rcases L with _ | ⟨x, t⟩
    · obtain rfl := hp.eq_nil
      exact .refl _
    · have hd := head_is hg hp hh
      rcases D with _ | ⟨y, D'⟩
      · exact absurd hp.length_eq (by simp)
      · have : y = x := by rw [atL_eq (by simp)] at hd; exact hd
        subst this
        rw [cutQ_cons, cutQ_cons]
        split
        · exact hp.cons_inv.cons _
        · exact hp
  · rw [cutQ_length]
    refine heap_same hh fun k => ?_
    rcases D with _ | ⟨y, D'⟩
    · exact ⟨rfl, rfl⟩
    · rw [cutQ_cons]
      split
      · cases k with
        | zero => exact ⟨rfl, rfl⟩
        | succ k => exact ⟨rfl, rfl⟩
      · exact ⟨rfl, rfl⟩

/-- prio's contracts, kept. -/
noncomputable def prioApi : PrioApi where
  IsQ := QueHP
  stable := fun _ _ _ => inferInstance
  ptr := fun ⟨x, ⟨h, _⟩, _⟩ => ⟨x.1, h⟩
  new := queue_new
  push := fun o h _ hl ho _ => queue_push o h hl ho
  peek := fun h hg _ => queue_peek h hg
  pop := fun h hg hl => queue_pop h hg hl
  cut := fun n h hg _ hn => queue_cut n h hg hn
  remove := fun n h hg hl _ => queue_remove n h hg hl
  find := fun n h hg hl _ => queue_find n h hg hl
  all := fun {w v up L F} h hg hl => by
    obtain ⟨⟨p, D⟩, ⟨rfl, hp, hh⟩, h⟩ := h
    simp only at hp hh h
    refine (queue_all h (by rw [hp.length_eq]; omega) hg hp).mono fun e w' ⟨x, he, ht⟩ => ⟨x, he, ht.imp fun F' hs => ?_⟩
    exact star_mono (fun F'' hr => ⟨⟨p, D⟩, ⟨rfl, hp, hh⟩, hr⟩) hs
  len := fun {w v up L F} h _ => by
    obtain ⟨⟨p, D⟩, ⟨rfl, hp, hh⟩, h⟩ := h
    simp only at hp hh h
    have := queue_len h
    rw [hp.length_eq] at this
    exact this
end Go.Proofs.Ytkbebllkjmccoaa
