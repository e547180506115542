/- The document's own rows of who did what: Has, Put and All. Conditions: the rows lie in memory and have at most a million things. -/
import Derived.Test.YtdhnpbfoeohhmaaPairs
namespace Go.Proofs.Ytdhnpbfoeohhmaa
open Go.RowKit Go.WideShapes

section
variable {w : World} {b off : Nat} {s : Value} {L : List (Int × Int)}
theorem pair_cells (hs : w.ownsRow 0 73 2 s L.length (cellsP L)) {k : Nat} (hk : k < L.length) : ∃ g cap, s = .slice (some ⟨g, 0, none⟩) L.length cap ∧ w.cell? ⟨g, k * 2, none⟩ = some (.int .i64 L[k].1) ∧ w.cell? ⟨g, k * 2 + 1, none⟩ = some (.int .i64 L[k].2) := by
  obtain ⟨g, cap, e, h1⟩ := rowN_cell hs (cellsP_at hk).1
  obtain ⟨g2, cap2, e2, h2⟩ := rowN_cell hs (cellsP_at hk).2
  rw [e] at e2
  injection e2 with e3 _ e4
  injection e3 with e3
  injection e3 with e3
  subst e3
  exact ⟨g, cap, e, h1, h2⟩

set_option maxRecDepth 100000 in
set_option maxHeartbeats 4000000 in
theorem rhas_any (who what : Int) (hc : w.cell? ⟨b, off, none⟩ = some s) (hs : w.ownsRow 0 73 2 s L.length (cellsP L)) (hL : L.length ≤ 1000000) :
    Calls Try.prog 32 #[.pointer (some ⟨b, off, none⟩), .int .i64 who, .int .i64 what] w fun e w' => e = .returned (.bool (decide ((who, what) ∈ L))) ∧ w' = w := by
  obtain ⟨nl, hn⟩ : ∃ k, L.length = k := ⟨_, rfl⟩
  obtain ⟨As, cs, rfl⟩ := rowN_form hs
  have HS := Lib.hid hs; have HN := Lib.hid hn
  rw [hn] at hc hL
  clear hs hn
  go_enter Try.func32, Try.ntmps32
  go_wp2_with fail
  go_loopw [7] (fun i wr => ∃ k : Nat, k ≤ nl ∧ i = .int .i64 k ∧ wr = w ∧ ∀ j (h : j < L.length), j < k → L[j] ≠ (who, what)) (fun i _ => nl - (intOf i).toNat)
  case atStart => exact ⟨0, by omega, rfl, rfl, fun j h hj => by omega⟩
  case round =>
    obtain ⟨k, hk, rfl, rfl, hno⟩ := hrel
    have HNO := Lib.hid hno
    clear hno
    by_cases hk' : k < nl
    · have hkL : k < L.length := by rw [HN.out]; exact hk'
      obtain ⟨g, cap, e, h1, h2⟩ := pair_cells HS.out hkL
      injection e with e1 _ e2
      subst e1; subst e2
      obtain ⟨x, hx⟩ : ∃ x, L[k] = x := ⟨_, rfl⟩
      rw [hx] at h1 h2
      obtain ⟨x1, x2⟩ := x
      simp only at h1 h2
      obtain ⟨p1, hp1⟩ : ∃ p, (x1 == who) = p := ⟨_, rfl⟩
      obtain ⟨p2, hp2⟩ : ∃ p, (x2 == what) = p := ⟨_, rfl⟩
      have HX := Lib.hid hx; have HP1 := Lib.hid hp1; have HP2 := Lib.hid hp2
      clear hx
      by_cases hf : p1 = true ∧ p2 = true
      · obtain ⟨rfl, rfl⟩ := hf
        go_wp2_with fail
        go_ret
        have e1 : x1 = who := by simpa using HP1.out
        have e2 : x2 = what := by simpa using HP2.out
        have hm : (who, what) ∈ L := by rw [← e1, ← e2, ← HX.out]; exact List.getElem_mem hkL
        exact ⟨by rw [decide_eq_true hm]; rfl, rfl⟩
      · have hno2 : ∀ j (h : j < L.length), j < k + 1 → L[j] ≠ (who, what) := fun j h hj => by
          by_cases e : j = k
          · subst e
            rw [HX.out]
            intro e
            injection e with e1 e2
            exact hf ⟨by rw [← HP1.out]; simpa using e1, by rw [← HP2.out]; simpa using e2⟩
          · exact HNO.out j h (by omega)
        have HN2 := Lib.hid hno2
        clear hno2
        rcases p1 with _ | _
        · go_wp2_with fail
          go_roundw
          case rel => exact ⟨k + 1, hk', by go_num, by first | rfl | trivial, HN2.out⟩
          case measure => simp [intOf]; omega
        · rcases p2 with _ | _
          · clear hf
            go_wp2_with fail
            go_roundw
            case rel => exact ⟨k + 1, hk', by go_num, by first | rfl | trivial, HN2.out⟩
            case measure => simp [intOf]; omega
          · exact absurd ⟨rfl, rfl⟩ hf
    · obtain rfl : k = nl := by omega
      clear hk hk'
      go_wp2_with fail
      go_ret
      have hm : (who, what) ∉ L := by
        intro h
        obtain ⟨j, hj, e⟩ := List.getElem_of_mem h
        exact HNO.out j hj (by rw [← HN.out]; exact hj) e
      exact ⟨by rw [decide_eq_false hm]; rfl, rfl⟩

set_option maxRecDepth 100000 in
set_option maxHeartbeats 4000000 in
theorem rall_any (what : Int) (hc : w.cell? ⟨b, off, none⟩ = some s) (hb : b < w.heap.size) (hs : w.ownsRow 0 73 2 s L.length (cellsP L)) (hL : L.length ≤ 1000000) :
    Calls Try.prog 28 #[.pointer (some ⟨b, off, none⟩), .int .i64 what] w fun e w' => ∃ x, e = .returned x ∧ w'.ownsRow w.heap.size 3 1 x (allOf L what).length (cellsI (allOf L what)) ∧ Below w.heap.size w w' := by
  obtain ⟨nl, hn⟩ : ∃ k, L.length = k := ⟨_, rfl⟩
  obtain ⟨As, cs, rfl⟩ := rowN_form hs
  have HS := Lib.hid hs; have HN := Lib.hid hn
  rw [hn] at hc hL
  clear hs hn
  go_enter Try.func28, Try.ntmps28
  go_wp2_with fail
  go_loopw [5, 6] (fun v i wr => ∃ k : Nat, k ≤ nl ∧ i = .int .i64 k ∧ wr.ownsRow w.heap.size 3 1 v (allOf (L.take k) what).length (cellsI (allOf (L.take k) what)) ∧ Below w.heap.size w wr) (fun _ i _ => nl - (intOf i).toNat)
  case atStart => exact ⟨0, by omega, rfl, World.ownsRow_nil _ _ _ _, Below.refl _ _⟩
  case round =>
    obtain ⟨k, hk, rfl, hown, hbl⟩ := hrel
    have HO := Lib.hid hown; have HB := Lib.hid hbl
    obtain ⟨Ao, co, rfl, _, hio⟩ := ints_own hown
    have HI := Lib.hid hio
    have hcw := (hbl.cell (p := ⟨b, off, none⟩) hb).trans hc
    clear hown hbl hio
    by_cases hk' : k < nl
    · have hkL : k < L.length := by rw [HN.out]; exact hk'
      obtain ⟨g, cap, e, h1, h2⟩ := pair_cells HS.out hkL
      injection e with e1 _ e2
      subst e1; subst e2
      obtain ⟨x, hx⟩ : ∃ x, L[k] = x := ⟨_, rfl⟩
      rw [hx] at h1 h2
      have htk : L.take (k + 1) = L.take k ++ [x] := by rw [← hx]; exact List.take_succ_eq_append_getElem hkL
      obtain ⟨x1, x2⟩ := x
      simp only at h1 h2
      have g1 := (HB.out.cell (p := ⟨g, k * 2, none⟩) (World.block_lt_of_cell? w _ h1)).trans h1
      have g2 := (HB.out.cell (p := ⟨g, k * 2 + 1, none⟩) (World.block_lt_of_cell? w _ h2)).trans h2
      have hal := allOf_le (L.take k) what
      have hal2 : (allOf (L.take k) what).length ≤ 1000000 := by rw [List.length_take] at hal; omega
      obtain ⟨p2, hp2⟩ : ∃ p, (x2 == what) = p := ⟨_, rfl⟩
      have HT := Lib.hid htk; have HP2 := Lib.hid hp2; have HAL := Lib.hid hal2
      clear hx htk h1 h2 hal hal2
      rcases p2 with _ | _
      · have e : allOf (L.take (k + 1)) what = allOf (L.take k) what := by
          rw [HT.out, allOf_snoc, if_neg]
          simpa using HP2.out
        have HE := Lib.hid e
        clear e
        go_wp2_with fail
        go_roundw
        case rel => exact ⟨k + 1, hk', by go_num, by rw [HE.out]; exact HO.out, HB.out⟩
        case measure => simp [intOf]; omega
      · have e : allOf (L.take (k + 1)) what = rising (allOf (L.take k) what) x1 := by
          rw [HT.out, allOf_snoc, if_pos]
          simpa using HP2.out
        have HE := Lib.hid e
        clear e
        go_wp2_with fail
        refine (rris_any x1 HI.out HAL.out).mono ?_
        rintro e w2 ⟨v2, rfl, ho2, hb2⟩
        have H2 := Lib.hid ho2; have HB2 := Lib.hid hb2
        clear ho2 hb2
        go_wp2_with fail
        go_roundw
        case rel =>
          refine ⟨k + 1, hk', by go_num, ?_, HB.out.trans (HB2.out.mono HB.out.size)⟩
          rw [HE.out]
          have := H2.out
          refine ⟨this.1, this.2.imp id ?_⟩
          rintro ⟨g', cap', cur', e1, e2, r⟩
          exact ⟨g', cap', cur', e1, Nat.le_trans HB.out.size e2, r⟩
        case measure => simp [intOf]; omega
    · obtain rfl : k = nl := by omega
      have ht : L.take k = L := List.take_of_length_le (by rw [HN.out]; exact Nat.le_refl _)
      rw [ht] at HO
      clear hk hk'
      go_wp2_with fail
      go_ret
      exact ⟨_, by rw [← ht]; rfl, HO.out, HB.out⟩
end
end Go.Proofs.Ytdhnpbfoeohhmaa
