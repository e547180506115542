/- The accounts' calls keep their contracts: New; and all of them together. Conditions: accounts that New or Copy made. -/
import Derived.Test.YtnicfhafepiknaaAcctCopy
namespace Go.Proofs.Ytnicfhafepiknaa
open Go.RowKit Go.WideShapes

theorem made_list (m : Nat) : (madeCells #[.int .u64 0] m).toList = cells64 (List.replicate m 0) := by
  apply List.ext_getElem
  · simp [madeCells, cells64]
  · intro i h1 h2
    have : i < m := by simpa [madeCells] using h1
    rw [Array.getElem_toList]
    simp [madeCells, cells64, Nat.mod_one]
theorem made_ru (w : World) (m : Nat) : ∃ G, RU (.slice (some ⟨w.heap.size, 0, none⟩) m m) m (List.replicate m 0) (w.alloc (.cells (madeCells #[.int .u64 0] m) 26)) G ∧ ∀ k, G k → w.heap.size ≤ k := by
  refine ⟨fun k => cells64 (List.replicate m 0) ≠ [] ∧ ∃ a : Addr, some (⟨w.heap.size, 0, none⟩ : Addr) = some a ∧ a.block = k, ⟨_, m, rfl, Nat.le_refl _, (fun h => by cases h), fun _ => Iff.rfl, Or.inr ⟨w.heap.size, 0, _, _, (0, 0), rfl, heap_alloc_new w _, fun j hj => ⟨?_, by simp⟩⟩⟩, ?_⟩
  · rw [Nat.zero_add, ← Array.getElem?_toList, made_list, List.getElem?_eq_getElem hj]
  · rintro k ⟨_, a, ha, rfl⟩
    obtain rfl := Option.some.inj ha
    exact Nat.le_refl _
/-- New accounts on their way: of the first k assets. -/
def NwAt (b m : Nat) (k : Int) : HP := fun w F =>
  (k = 0 ∧ Blk b #[.slice none 0 0, .slice none 0 0] 62 w F) ∨
  (k = 1 ∧ ∃ y0, star (Blk b #[y0, .slice none 0 0] 62) (RU y0 m (List.replicate m 0)) w F) ∨
  (k = 2 ∧ ∃ y0 y1, star (Blk b #[y0, y1] 62) (star (RU y1 m (List.replicate m 0)) (RU y0 m (List.replicate m 0))) w F)
theorem new_rows (n : Int) : (newA n).map Prod.fst = List.replicate (newA n).length 0 ∧ (newA n).map Prod.snd = List.replicate (newA n).length 0 := by
  unfold newA
  simp

set_option maxRecDepth 100000 in
set_option maxHeartbeats 8000000 in
theorem acc_new (w : World) (n : Int) (hn : I64 n) : Calls Try.prog 10 #[.int .i64 n] w fun e w' => ∃ v F, e = .returned v ∧ IsAcct v (newA n) w' F ∧ (∀ k, F k → w.heap.size ≤ k) ∧ Below w.heap.size w w' := by
  obtain ⟨i0, hi, hz0, hz1, hz2⟩ := info_parts uint64_info
  have hlen := newA_length n
  obtain ⟨m, hm⟩ : ∃ m, (newA n).length = m := ⟨_, rfl⟩
  rw [hm] at hlen
  have hm1 : m ≤ 1000 := by omega
  have hmk : ∀ wq : World, (Instr.makeSlice 33 (.int .i64 (m : Int)) (.int .i64 (m : Int))).run Try.prog wq = .ok (.slice (some ⟨wq.heap.size, 0, none⟩) m m) (wq.alloc (.cells (madeCells #[.int .u64 0] m) 26)) := by
    intro wq
    have h := run_make (P := Try.prog) wq 33 26 i0 (.int .u64 0) Try.underlying33 hi hz0 .i64 .i64 (m : Int) (m : Int) (by omega) (by omega) (by rw [hz2]; omega) (by omega)
    rw [hz1, Int.toNat_natCast, Nat.mul_one] at h
    exact h
  obtain ⟨x, hx1⟩ : ∃ x : Int, (if n < 0 then 0 else n) = x := ⟨_, rfl⟩
  have hx2 : (if 1000 < x then 1000 else x) = (m : Int) := by
    rw [hlen, ← hx1]
    split <;> split <;> omega
  have h0 : St w w nothing := St.start w w (Below.refl _ _)
  have h1 := (h0.add (w' := w.alloc (.cells #[.slice none 0 0, .slice none 0 0] 62)) ((Below.refl _ _).alloc (Nat.le_refl _) _) (Blk.made _ _ _) (fun k hk => by rw [hk]; exact Nat.le_refl _)).one
  have H1 := Lib.hid h1; have HM := Lib.hid hm
  clear h0 h1 hm hlen hi hz0 hz1 hz2 hn
  go_enter Try.func10, Try.ntmps10
  go_wp2_with fail
  go_loopw [7] (fun i wr => ∃ k : Int, i = .int .i64 k ∧ St w wr (NwAt w.heap.size m k)) (fun i _ => (2 - intOf i).toNat)
  case atStart => exact ⟨0, rfl, H1.out.imp fun _ hp => Or.inl ⟨rfl, hp⟩⟩
  case round =>
    obtain ⟨k, rfl, F', hk, hr⟩ := hrel
    rcases hk with ⟨rfl, hp⟩ | ⟨rfl, y0, hp⟩ | ⟨rfl, y0, y1, hp⟩
    · have h2 : St w wr _ := ⟨F', hp, hr⟩
      clear hp hr
      obtain ⟨G, hG, hG2⟩ := made_ru wr m
      have h3 := (h2.add ((Below.refl _ _).alloc (Nat.le_refl _) _) hG hG2).comm
      obtain ⟨_, lt3, hc3, hf3⟩ := Turns.blk h3
      have c3 := hc3 0 _ rfl
      have f3 := hf3 0
      have H3 := Lib.hid (h3.blk_set 0 (.slice (some ⟨wr.heap.size, 0, none⟩) m m)).drew
      clear h3 h2 hG hG2 hc3 hf3
      go_wp2_with fail
      go_region_law fail
      all_goals
        go_wp2_with fail
        go_roundw
        case rel => exact ⟨1, rfl, H3.out.imp fun _ hp => Or.inr (Or.inl ⟨rfl, _, hp⟩)⟩
        case measure => simp [intOf]
    · have h2 : St w wr _ := ⟨F', hp, hr⟩
      clear hp hr
      obtain ⟨G, hG, hG2⟩ := made_ru wr m
      have h3 := (h2.add ((Below.refl _ _).alloc (Nat.le_refl _) _) hG hG2).swap
      obtain ⟨_, lt3, hc3, hf3⟩ := Turns.blk h3
      have c3 := hc3 1 _ rfl
      have f3 := hf3 1
      have H3 := Lib.hid (h3.blk_set 1 (.slice (some ⟨wr.heap.size, 0, none⟩) m m)).drew
      clear h3 h2 hG hG2 hc3 hf3
      go_wp2_with fail
      go_region_law fail
      all_goals
        go_wp2_with fail
        go_roundw
        case rel => exact ⟨2, rfl, H3.out.imp fun _ hp => Or.inr (Or.inr ⟨rfl, _, _, hp⟩)⟩
        case measure => simp [intOf]
    · have h2 : St w wr _ := ⟨F', hp, hr⟩
      clear hp hr
      have HE := Lib.hid (h2.imp fun _ => star_mono fun _ => star_comm)
      clear h2
      go_wp2_with fail
      go_ret
      obtain ⟨G, h3, h4, h5⟩ := HE.out
      refine ⟨_, G, rfl, ⟨w.heap.size, y0, y1, ⟨rfl, by have := HM.out; omega, goodA_new n⟩, ?_⟩, fun k hk => (h5 k hk).elim (fun h => h.elim) id, HE.out.below⟩
      unfold AccB
      rw [(new_rows n).1, (new_rows n).2, HM.out]
      exact h3

/-- All of package acct's contracts. -/
noncomputable def acctApi : AcctApi where
  IsA := IsAcct
  stable := fun _ _ => inferInstance
  ptr := fun ⟨_, _, _, ⟨h, _⟩, _⟩ => ⟨_, h⟩
  new := acc_new
  free := fun c s h _ _ => acc_free c s h
  put := fun c s n h _ _ hn => acc_put c s n h hn
  take := fun c s n h _ _ hn => acc_take c s n h hn
  sum := fun s h _ => acc_sum s h
  copy := fun h => acc_copy h
end Go.Proofs.Ytnicfhafepiknaa
