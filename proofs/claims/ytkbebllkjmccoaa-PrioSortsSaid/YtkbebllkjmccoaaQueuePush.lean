/- prio's Queue: plain facts, New, Push. Conditions: as each says. -/
import Derived.Test.YtkbebllkjmccoaaQueueRets
namespace Go.Proofs.Ytkbebllkjmccoaa
open Go.RowKit Go.WideShapes

/-- A queue at v that holds L: its orders stand in a heap. -/
def QueHP (v : Value) (up : Bool) (L : Ords) : HP := fun w F => ∃ x : Addr × Ords, (v = .pointer (some x.1) ∧ x.2.Perm L ∧ HeapTo (aheadO up) x.2 x.2.length) ∧ RankHP x.1 up x.2 w F
instance QueHP.stable (v : Value) (up : Bool) (L : Ords) : Stable (QueHP v up L) := inferInstanceAs (Stable (fun w F => ∃ x : Addr × Ords, (v = .pointer (some x.1) ∧ x.2.Perm L ∧ HeapTo (aheadO up) x.2 x.2.length) ∧ RankHP x.1 up x.2 w F))
theorem QueHP.shut {F0 : Nat → Prop} {w0 w : World} {p : Addr} {up : Bool} {D L : Ords} (hp : D.Perm L) (hh : HeapTo (aheadO up) D D.length) (h : Turns F0 w0 w (RankHP p up D)) : Turns F0 w0 w (QueHP (.pointer (some p)) up L) :=
  h.imp fun _ h => ⟨⟨p, D⟩, ⟨rfl, hp, hh⟩, h⟩

section
variable {up : Bool} {L D : Ords}
theorem head_is {x : OrdV} {t : Ords} (hg : GoodQ up (x :: t)) (hp : D.Perm (x :: t)) (hh : HeapTo (aheadO up) D D.length) : atL D 0 = x := by
  have hl : 0 < D.length := by rw [hp.length_eq]; simp
  have hx : x ∈ D := hp.mem_iff.2 (by simp)
  obtain ⟨k, hk, he⟩ := List.getElem_of_mem hx
  have h1 := hh.least (ahead_ord up) k hk
  rw [atL_eq hk, he] at h1
  have h0 : atL D 0 ∈ x :: t := hp.mem_iff.1 (atL_mem hl)
  rcases List.mem_cons.1 h0 with e | e
  · exact e
  · have := (List.pairwise_cons.1 hg.sorted).1 _ e
    rw [h1] at this
    cases this
theorem find_of {o : OrdV} (hg : GoodQ up L) (hp : D.Perm L) (ho : o ∈ D) : findQ o.id L = some o := by
  have hoL : o ∈ L := hp.mem_iff.1 ho
  have hs : (findQ o.id L).isSome = true := find_is.2 ⟨o, hoL, rfl⟩
  obtain ⟨p, hp'⟩ := Option.isSome_iff_exists.1 hs
  obtain ⟨h1, h2⟩ := find_some hp'
  rw [hp']
  congr 1
  by_cases e : p = o
  · exact e
  · exfalso
    have hi := hg.ids
    rw [List.pairwise_iff_getElem] at hi
    obtain ⟨i, hi1, rfl⟩ := List.getElem_of_mem h2
    obtain ⟨j, hj1, rfl⟩ := List.getElem_of_mem hoL
    rcases Nat.lt_trichotomy i j with h | h | h
    · exact hi i j hi1 hj1 h h1
    · subst h; exact e rfl
    · exact hi j i hj1 hi1 h h1.symm
theorem find_none_of {id : Int} (hp : D.Perm L) (h : ∀ o ∈ D, o.id ≠ id) : findQ id L = none := by
  unfold findQ
  rw [List.find?_eq_none]
  intro o ho
  have := h o (hp.mem_iff.2 ho)
  unfold isId
  simpa using this
theorem rm_none_of {id : Int} (hp : D.Perm L) (h : ∀ o ∈ D, o.id ≠ id) : rmQ id L = L := by
  unfold rmQ
  rw [List.filter_eq_self]
  intro o ho
  have := h o (hp.mem_iff.2 ho)
  unfold notId
  simpa using this
theorem rm_of {o : OrdV} {L' : Ords} (hg : GoodQ up L) (hp : (o :: L').Perm L) : L'.Perm (rmQ o.id L) := by
  have hi := (hp.pairwise_iff (R := fun a b => a.id ≠ b.id) (fun {a b} hne => Ne.symm hne)).2 hg.ids
  have h1 : (rmQ o.id (o :: L')).Perm (rmQ o.id L) := hp.filter _
  have h2 : rmQ o.id (o :: L') = L' := by
    unfold rmQ
    rw [List.filter_cons_of_neg (by unfold notId; simp), List.filter_eq_self]
    intro x hx
    have := (List.pairwise_cons.1 hi).1 x hx
    unfold notId
    have : ¬ x.id = o.id := fun e => this e.symm
    simpa using this
  rwa [h2] at h1
theorem heap_same {E : Ords} {n : Nat} (h : HeapTo (aheadO up) D n) (he : ∀ k, (atL E k).price = (atL D k).price ∧ (atL E k).id = (atL D k).id) : HeapTo (aheadO up) E n := fun k h0 hk => by
  have := h k h0 hk
  unfold Edge aheadO at this ⊢
  rw [(he k).1, (he k).2, (he ((k - 1) / 2)).1, (he ((k - 1) / 2)).2]
  exact this
end

theorem push_turns {F0 : Nat → Prop} {w0 w : World} {p : Addr} {up : Bool} {D : Ords} {R : HP} [hR : Stable R] (o : OrdV) (h : Turns F0 w0 w (star (RankHP p up D) R)) (hl : D.length ≤ 900000) (ho : o.ok) (hh : HeapTo (aheadO up) D D.length) :
    Calls Try.prog 22 #[.iface 56 (.pointer (some p)), .iface 28 o.val] w fun e w' => e = .returned (.tuple #[]) ∧ ∃ L', L'.Perm (o :: D) ∧ HeapTo (aheadO up) L' L'.length ∧ Turns F0 w0 w' (star (RankHP p up L') R) := by
  refine (h.call (Q := fun e w' F => (e = .returned (.tuple #[])) ∧ ∃ L', (L'.Perm (o :: D) ∧ HeapTo (aheadO up) L' L'.length) ∧ RankHP p up L' w' F) (fun F hp => (heap_push rankIf o (Turns.begin hp) hl ho hh).mono ?_)).mono ?_
  · rintro e w' ⟨he, L', h1, h2, F', h3, h4⟩
    exact ⟨F', ⟨he, L', ⟨h1, h2⟩, h3⟩, h4⟩
  · rintro e w' ⟨F, ⟨A, B, ⟨he, L', ⟨h1, h2⟩, h3⟩, r⟩, r2⟩
    exact ⟨he, L', h1, h2, F, ⟨A, B, h3, r⟩, r2⟩

theorem queue_new (w : World) (up : Bool) : Calls Try.prog 7 #[.bool up] w fun e w' => ∃ v F, e = .returned v ∧ QueHP v up [] w' F ∧ (∀ k, F k → w.heap.size ≤ k) ∧ Below w.heap.size w w' := by
  obtain ⟨b, hb, h1⟩ := (St.start w w (Below.refl _ _)).local5 #[.bool up, .slice none 0 0] 54
  have h2 := h1.add (Below.refl _ _) (RowN.none _ 28 5) (fun _ h => h.elim)
  have h3 : St w _ (RankHP ⟨b, 0, none⟩ up []) := RankHP.shut' (A := none) (cap := 0) (D := []) rfl h2
  have H3 := Lib.hid (QueHP.shut (L := []) (.refl _) (fun k h0 hk => by simp at hk) h3)
  have HB := Lib.hid h1.below
  subst hb
  clear h1 h2 h3
  go_enter Try.func7, Try.ntmps7
  go_wp2_with fail
  go_ret
  obtain ⟨F, hq, _, hF⟩ := H3.out
  exact ⟨_, F, rfl, hq, fun k hk => (hF k hk).elim (fun h => h.elim) id, HB.out⟩

set_option maxRecDepth 100000 in
set_option maxHeartbeats 4000000 in
theorem queue_push {w : World} {v : Value} {up : Bool} {L : Ords} {F : Nat → Prop} (o : OrdV) (h : QueHP v up L w F) (hl : L.length ≤ 100000) (ho : o.ok) :
    Calls Try.prog 8 #[v, o.val] w fun e w' => e = .returned (.tuple #[]) ∧ Turns F w w' (QueHP v up (insQ up o L)) := by
  obtain ⟨⟨p, D⟩, ⟨rfl, hp, hh⟩, h⟩ := h
  simp only at hp hh h
  obtain ⟨b, hpb⟩ : ∃ b, p = ⟨b, 0, none⟩ := by
    obtain ⟨b, _, _, hp, _⟩ := h.open'
    exact ⟨b, hp⟩
  subst hpb
  obtain ⟨o1, o2, o3, o4, o5⟩ := o
  obtain ⟨bo, hbo, h1⟩ := (Turns.begin h).local5 #[.int .i64 o1, .int .i64 o2, .bool o3, .int .u64 o4, .int .u64 o5] 28
  have K := push_turns ⟨o1, o2, o3, o4, o5⟩ h1.comm.drew (by rw [hp.length_eq]; omega) ho hh
  unfold OrdV.val at K
  have hf : ∀ (w' : World) (Q : HP), Turns F w w' (star (Blk bo #[.int .i64 o1, .int .i64 o2, .bool o3, .int .u64 o4, .int .u64 o5] 28) Q) → (w'.cell? ⟨bo, 0, none⟩ = some (.int .i64 o1) ∧ w'.cell? ⟨bo, 1, none⟩ = some (.int .i64 o2) ∧ w'.cell? ⟨bo, 2, none⟩ = some (.bool o3) ∧ w'.cell? ⟨bo, 3, none⟩ = some (.int .u64 o4) ∧ w'.cell? ⟨bo, 4, none⟩ = some (.int .u64 o5)) := fun w' Q h => by
    obtain ⟨_, _, q, _⟩ := h.blk
    exact ⟨q 0 _ rfl, q 1 _ rfl, q 2 _ rfl, q 3 _ rfl, q 4 _ rfl⟩
  have e0 := hf _ _ h1.drew
  have HF := Lib.hid hf
  have HI := Lib.hid (show ∀ E : Ords, E.Perm (⟨o1, o2, o3, o4, o5⟩ :: D) → E.Perm (insQ up ⟨o1, o2, o3, o4, o5⟩ L) from fun E he => (he.trans (hp.cons _)).trans (insQ_perm up _ L).symm)
  have HK := Lib.hid K
  simp only [OrdV.val]
  clear h h1 hp hh hf K ho
  go_enter Try.func8, Try.ntmps8
  go_upto_region 1 with fail
  rw [← hbo]
  clear hbo
  generalize (w.alloc (.cells #[.int .i64 o1, .int .i64 o2, .bool o3, .int .u64 o4, .int .u64 o5] 28)) = w1 at HK e0 ⊢
  go_region_held3 (fun w' : World => w'.cell? ⟨bo, 0, none⟩ = some (.int .i64 o1) ∧ w'.cell? ⟨bo, 1, none⟩ = some (.int .i64 o2) ∧ w'.cell? ⟨bo, 2, none⟩ = some (.bool o3) ∧ w'.cell? ⟨bo, 3, none⟩ = some (.int .u64 o4) ∧ w'.cell? ⟨bo, 4, none⟩ = some (.int .u64 o5)) (first | exact e1 | exact e0) (first
    | (go_at_call 22; refine HK.out.mono ?_; rintro e w10 ⟨rfl, E, hpe, hhe, hte⟩; have e1 := HF.out _ _ hte.comm; have H10 := Lib.hid (QueHP.shut (HI.out E hpe) hhe hte.fst); clear hpe hhe hte))
  all_goals
    go_wp2_with fail
    go_end0
    exact ⟨rfl, H10.out⟩
end Go.Proofs.Ytkbebllkjmccoaa
