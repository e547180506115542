/- The writer's Num, Int and Text as contracts. Conditions: a writer that New made; what was written is fewer than 2^30 bytes; a text lies outside the writer. -/
import Derived.Test.YtcnnfmooigfeiaaWireW
namespace Go.Proofs.Ytcnnfmooigfeiaa
open Go.RowKit Go.WideShapes

theorem wr_lt {w : World} {b : Nat} {s : Value} {l : List UInt8} (h : WrAt w b s l) : ∀ k, (k = b ∨ s.ownBlock = some k) → k < w.heap.size := by
  rintro k (rfl | hk)
  · exact lt_of_block h.1
  · exact (h.2.1.lt k hk).2
theorem wr_keep {w w' : World} {b : Nat} {s : Value} {l : List UInt8} {G : Nat → Prop} (h : WrAt w b s l) (hc : Chg G w w') (hd : ∀ k, (k = b ∨ s.ownBlock = some k) → ¬ G k) : WrAt w' b s l := by
  have hl := wr_lt h
  obtain ⟨h1, h2, h3⟩ := h
  refine ⟨(hc.block b (hl b (Or.inl rfl)) (hd b (Or.inl rfl))).trans h1, ?_, h3⟩
  refine ⟨h2.1, ?_⟩
  rcases h2.2 with h | ⟨g, cap, cur, rfl, hg, hh, r⟩
  · exact Or.inl h
  · exact Or.inr ⟨g, cap, cur, rfl, hg, (hc.block g (hl g (Or.inr rfl)) (hd g (Or.inr rfl))).trans hh, r⟩

theorem wr_num {w : World} {v : Value} {l : List UInt8} {F : Nat → Prop} (n : Int) (h : IsWr w v l F) (hn : Word n) (hl : l.length ≤ 1073741824) :
    Calls Try.prog 12 #[v, .int .u64 n] w fun e w' => ∃ F', e = .returned (.tuple #[]) ∧ IsWr w' v (l ++ num8 n) F' ∧ Chg F w w' ∧ (∀ k, F' k → F k ∨ w.heap.size ≤ k) := by
  obtain ⟨b, s, rfl, h, hF⟩ := h
  refine (wr_num_at n h hF hn hl).mono ?_
  rintro e w' ⟨rfl, s', h1, h2, h3⟩
  exact ⟨fun k => k = b ∨ s'.ownBlock = some k, rfl, ⟨b, s', rfl, h1, fun _ => Iff.rfl⟩, h2, h3⟩

theorem wr_int {w : World} {v : Value} {l : List UInt8} {F : Nat → Prop} (n : Int) (h : IsWr w v l F) (hl : l.length ≤ 1073741824) :
    Calls Try.prog 10 #[v, .int .i64 n] w fun e w' => ∃ F', e = .returned (.tuple #[]) ∧ IsWr w' v (l ++ num8 (asU n)) F' ∧ Chg F w w' ∧ (∀ k, F' k → F k ∨ w.heap.size ≤ k) := by
  have h' := h
  obtain ⟨b, s, rfl, _⟩ := h
  go_enter Try.func10, Try.ntmps10
  go_wp2_with fail
  refine (wr_num (asU n) h' (asU_word n) hl).mono ?_
  rintro e w1 ⟨F', rfl, h1⟩
  have H := Lib.hid h1
  clear h1
  go_wp2_with fail
  go_end0
  exact ⟨F', rfl, H.out⟩

set_option maxHeartbeats 800000 in
theorem wr_text {w : World} {v : Value} {l : List UInt8} {F : Nat → Prop} (A : Option Addr) (n cap : Nat) (t : List UInt8) (h : IsWr w v l F) (hl : l.length ≤ 1073741824) (ht : t.length = n) (hn : n ≤ 1073741824) (hnc : n ≤ cap) (hA : A = none → cap = 0) (hlie : Lie8 w F A t) :
    Calls Try.prog 11 #[v, .slice A n cap] w fun e w' => ∃ F', e = .returned (.tuple #[]) ∧ IsWr w' v (l ++ text8 t) F' ∧ Chg F w w' ∧ (∀ k, F' k → F k ∨ w.heap.size ≤ k) := by
  obtain ⟨i0, hi, hz0, hz1, hz2⟩ := info_parts Try.info8
  subst ht
  have h' := h
  obtain ⟨b, s, rfl, _⟩ := h
  have gn : (t.length : Int) < 18446744073709551616 := by omega
  go_enter Try.func11, Try.ntmps11
  go_wp2_with fail
  refine (wr_num (t.length : Int) h' ⟨by omega, gn⟩ hl).mono ?_
  rintro e w1 ⟨F1, rfl, ⟨b1, s1, hb1, hat, hF1⟩, hc1, hn1⟩
  injection hb1 with hb1; injection hb1 with hb1; injection hb1 with hb1; subst hb1
  have hlie1 : Lie8 w1 F A t := hlie.chg hc1 (fun _ _ h => h)
  have hcb := cell_of_one hat.1
  have hfz := free_of_one hat.1
  have hlen : (l ++ num8 (t.length : Int)).length ≤ 1073741832 := by rw [List.length_append, num8_length]; omega
  have hpos : (l ++ num8 (t.length : Int)).length ≠ 0 := by rw [List.length_append, num8_length]; omega
  have HT : Hid (l ++ text8 t = (l ++ num8 (t.length : Int)) ++ t) := Lib.hid (by rw [text8, List.append_assoc])
  obtain ⟨g0, cap0, rfl⟩ := own_shape hat.2.1 hpos
  have HA := Lib.hid hat
  have HF := Lib.hid hF1
  have HC := Lib.hid hc1
  have HN := Lib.hid hn1
  have HL := Lib.hid hlie1
  clear hat hF1 hc1 hn1 hlie1 hlie h'
  generalize l ++ num8 (t.length : Int) = m at *
  have g1 : m.length + t.length ≤ maxLen := by unfold maxLen; omega
  have g2 : (m.length + t.length) * 1 ≤ 140737488355328 := by omega
  rcases A with _ | a
  · obtain rfl := hA rfl
    have ht0 : t = [] := List.eq_nil_of_length_eq_zero (by omega)
    subst ht0
    simp only [List.length_nil] at *
    go_wp2_with (at_builtin; refine wpList_append_own_none rfl (.tmp 13) (.tmp 14) 25 rfl 0 5 i0 1 Try.underlying25 hi _ m.length (cells8 m) rfl HA.out.2.1 rfl ?_)
    obtain ⟨k1, k2, k3⟩ := wr_stored (more := []) HA.out (by simpa [cells8] using HA.out.2.1) (w1 := w1) ⟨rfl, rfl, rfl, Nat.le_refl _, fun _ _ _ => rfl⟩ (fun k hk => Or.inl hk)
    go_end0
    exact ⟨_, rfl, ⟨b, _, rfl, by rw [HT.out]; exact k1, fun _ => Iff.rfl⟩, HC.out.trans k2 (fun i hi hf => ((HN.out i ((HF.out i).2 hf)).elim id (fun h => by omega))),
      fun k hk => (k3 k hk).elim (fun h => HN.out k ((HF.out k).2 h)) (fun h => Or.inr (Nat.le_trans HC.out.size h))⟩
  · have hcell : ∀ j u, (cells8 t)[j]? = some u → w1.cell? (a.add j) = some u := by
      intro j u hu
      obtain ⟨hj, rfl⟩ := cells8_some hu
      rcases HL.out with rfl | ⟨a', ha, _, _, hc⟩
      · simp at hj
      · obtain rfl := Option.some.inj ha
        exact hc j hj
    have HCL := Lib.hid hcell
    clear hcell
    go_wp2_with (at_builtin; refine wpList_append_here rfl (.tmp 13) (.tmp 14) 25 rfl 0 5 i0 (.int .u8 0) 1 1 Try.underlying25 hi hz0 hz1 hz2 rfl (by decide) _ m.length (cells8 m) rfl HA.out.2.1 a t.length cap (cells8 t) rfl (by rw [cells8_length, Nat.mul_one]) HCL.out (cells8_one t) g1 g2 (Nat.zero_le _) ?_)
    intro v' w2 hown hgr hfr
    obtain ⟨g3, cap3, rfl⟩ := own_shape hown (by omega)
    have hb2 := grown_keeps hgr HA.out.1 HA.out.2.2
    have hc2 := cell_of_one hb2
    have hf2 := free_of_one hb2
    obtain ⟨k1, k2, k3⟩ := wr_stored HA.out hown hgr hfr
    have HO := Lib.hid hown
    have HG := Lib.hid hgr
    have HR := Lib.hid hfr
    have HB2 := Lib.hid hb2
    have H1 := Lib.hid k1
    have H2 := Lib.hid k2
    have H3 := Lib.hid k3
    clear hown hgr hfr hb2 k1 k2 k3
    go_wp2
    go_end0
    exact ⟨_, rfl, ⟨b, _, rfl, by rw [HT.out]; exact H1.out, fun _ => Iff.rfl⟩, HC.out.trans H2.out (fun i hi hf => ((HN.out i ((HF.out i).2 hf)).elim id (fun h => by omega))),
      fun k hk => (H3.out k hk).elim (fun h => HN.out k ((HF.out k).2 h)) (fun h => Or.inr (Nat.le_trans HC.out.size h))⟩
end Go.Proofs.Ytcnnfmooigfeiaa
