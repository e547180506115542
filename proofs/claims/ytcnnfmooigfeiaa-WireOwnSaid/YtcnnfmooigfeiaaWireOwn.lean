/- WireOwn answers true, and makes only new memory. Conditions: wire's calls are as their contracts say; the bytes lie in memory. -/
import Derived.Test.YtcnnfmooigfeiaaWireReads
import Derived.Maps.AppendAt
import Derived.Deep.RegionWith
namespace Go.Proofs.Ytcnnfmooigfeiaa
open Go.RowKit Go.WideShapes

/-- A row of the call's own stays, where it is not touched. -/
theorem own_chg {w w' : World} {base n size : Nat} {e : TypeId} {v : Value} {xs : List Value} {F : Nat → Prop} (h : w.ownsRow base e size v n xs) (hc : Chg F w w') (hF : ∀ k, v.ownBlock = some k → ¬ F k) : w'.ownsRow base e size v n xs := by
  rcases h with ⟨hl, h | ⟨g, cap, cur, rfl, hb, hg, h1, h2, h3, h4⟩⟩
  · exact ⟨hl, Or.inl h⟩
  · have hlt : g < w.heap.size := by
      rcases Nat.lt_or_ge g w.heap.size with h | h
      · exact h
      · rw [Array.getElem?_eq_none h] at hg; cases hg
    exact ⟨hl, Or.inr ⟨g, cap, cur, rfl, hb, (hc.block g hlt (hF g rfl)).trans hg, h1, h2, h3, h4⟩⟩
/-- The row as a slice at the head of its block. -/
theorem own_form {w : World} {base n : Nat} {e : TypeId} {v : Value} {l : List UInt8} (h : w.ownsRow base e 1 v n (cells8 l)) (hn : 0 < n) :
    ∃ g cap : Nat, v = .slice (some ⟨g, 0, none⟩) n cap ∧ base ≤ g ∧ g < w.heap.size ∧ n ≤ cap ∧ l.length = n ∧ (∀ j (hj : j < l.length), w.cell? ⟨g, j, none⟩ = some (.int .u8 (l[j].toNat : Int))) ∧ (∀ j, w.frozen? ⟨g, j, none⟩ = false) := by
  have hl : l.length = n := by have := h.1; rw [cells8_length] at this; omega
  have h' := h
  rcases h with ⟨_, ⟨_, h0⟩ | ⟨g, cap, cur, rfl, hb, hg, h1, h2, h3, h4⟩⟩
  · omega
  · refine ⟨g, cap, rfl, hb, (h'.lt g rfl).2, h1, hl, fun j hj => ?_, fun j => h'.frozenAt j⟩
    have := h'.cells (g := g) rfl j _ (cells8_at hj)
    rwa [add_plain, Nat.zero_add] at this

theorem own_short (A : WireApi) (a : Option Addr) (n cap : Nat) (at_ : Int) (hn : n = 0 ∨ 100 < n) (hn2 : n ≤ 9223372036854775807) (w : World) :
    Calls Try.prog 4 #[.slice a n cap, .int .i64 at_] w fun e w' => e = .returned (.bool true) ∧ Below w.heap.size w w' := by
  rcases hn with rfl | hn
  · go_enter Try.func4, Try.ntmps4
    go_wp2_with (go_at_call 8; refine (awake_any A _).mono ?_; rintro e w2 ⟨rfl, hb2⟩)
    go_ret
    exact ⟨rfl, hb2⟩
  · have h0 : 0 < n := by omega
    have h1 : ((n : Int) == 0) = false := by simp; omega
    go_enter Try.func4, Try.ntmps4
    go_wp2_with (go_at_call 8; refine (awake_any A _).mono ?_; rintro e w2 ⟨rfl, hb2⟩)
    go_ret
    exact ⟨rfl, hb2⟩

theorem mask255r (n : Int) : bits .and .i64 n 255 = n % 256 := by
  have h255 : (BitVec.ofInt 64 255).toNat = 2 ^ 8 - 1 := by decide
  have key : (BitVec.ofInt 64 n &&& BitVec.ofInt 64 255).toNat = (n % ((2 ^ 64 : Nat) : Int)).toNat % 2 ^ 8 := by
    rw [BitVec.toNat_and, BitVec.toNat_ofInt, h255, Nat.and_two_pow_sub_one_eq_mod]
  show IntKind.i64.wrap ((BitVec.ofInt 64 n &&& BitVec.ofInt 64 255).toNat : Nat) = n % 256
  rw [key, IntKind.wrap_i64]
  omega

/-- The bytes of a string, made just now. -/
theorem lie8_was (w : World) (t : List UInt8) (c : Nat) (m : Nat × Nat) (was : ByteArray) (h : was = ⟨t.toArray⟩) : Lie8 (w.alloc (.cells (bytesRow was c) 5 m)) (fun _ => False) (some ⟨w.heap.size, 0, none⟩) t := by
  refine Or.inr ⟨_, rfl, by simp, (fun h => h), fun j hj => ?_⟩
  rw [add_plain, Nat.zero_add, World.cell?_alloc_mark]
  subst h
  unfold bytesRow
  rw [Array.getElem?_append_left (by simpa using hj)]
  simp [List.getElem?_eq_getElem hj]
theorem rtext_was (t : List UInt8) (n : Nat) (w : World) (was : ByteArray) (m : Nat × Nat) (hn : t.length = n) (hl : n ≤ 100) (h : was = ⟨t.toArray⟩) :
    Calls Try.prog 15 #[.slice (some ⟨w.heap.size, 0, none⟩) was.size (grownCap w.drew was.size 0 5)] ((w.alloc (.cells (bytesRow was (grownCap w.drew was.size 0 5)) 5 m)).drew.drew) fun e w' =>
      ∃ g cap : Nat, e = .returned (.slice (some ⟨g, 0, none⟩) (8 + n) cap) ∧ Below w.heap.size w w' ∧ Lie8 w' (fun _ => False) (some ⟨g, 0, none⟩) (text8 t) := by
  have hs : was.size = n := by subst h; exact (by simpa [ByteArray.size] using hn)
  have hba : Below w.heap.size w ((w.alloc (.cells (bytesRow was (grownCap w.drew was.size 0 5)) 5 m)).drew.drew) := ((Below.refl _ _).alloc (Nat.le_refl _) _).drew.drew
  refine (rtext_any (some ⟨w.heap.size, 0, none⟩) was.size (grownCap w.drew was.size 0 5) t ((w.alloc (.cells (bytesRow was (grownCap w.drew was.size 0 5)) 5 m)).drew.drew) (by rw [hs]; exact hn) (by omega) (grownCap_ge _ _ _ _) (fun h => by cases h) (lie8_was w t _ m was h)).mono ?_
  rintro e w' ⟨v, rfl, hown, hb⟩
  have hl8 : (text8 t).length = 8 + n := by unfold text8; rw [List.length_append, num8_length, hn]
  rw [hl8] at hown
  obtain ⟨g, cap, rfl, _, hgs, _, _, hc, _⟩ := own_form hown (by omega)
  exact ⟨g, cap, rfl, hba.trans (hb.mono hba.size), Or.inr ⟨_, rfl, hgs, (fun h => h), fun j hj => by rw [add_plain, Nat.zero_add]; exact hc j hj⟩⟩

theorem done_true (A : WireApi) {w : World} {r : Value} {G : Nat → Prop} (h : A.IsR w r (some []) G) : Calls Try.prog 18 #[r] w fun e w' => e = .returned (.bool true) ∧ Below w.heap.size w w' := by
  have := A.done h; rw [aw5] at this; exact this
theorem lie8_chg_at {w w' : World} {G : Nat → Prop} {a : Addr} {l : List UInt8} (h : Lie8 w (fun _ => False) (some a) l) (hc : Chg G w w') (hG : ¬ G a.block) : Lie8 w' (fun _ => False) (some a) l := by
  rcases h with rfl | ⟨a', ha, hb, _, hcell⟩
  · exact Or.inl rfl
  · obtain rfl := Option.some.inj ha
    exact Or.inr ⟨_, rfl, Nat.lt_of_lt_of_le hb hc.size, (fun h => h), fun j hj => (hc.cell (p := a.add j) (by rw [block_add]; exact hb) (by rw [block_add]; exact hG)).trans (hcell j hj)⟩

set_option maxRecDepth 100000 in
set_option maxHeartbeats 8000000 in
theorem own_some (A : WireApi) (a : Addr) (cap : Nat) (t : List UInt8) (at_ : Int) (h0 : 0 < t.length) (hl : t.length ≤ 100) (w : World) (hlie : Lie8 w (fun _ => False) (some a) t) :
    Calls Try.prog 4 #[.slice (some a) t.length cap, .int .i64 at_] w fun e w' => e = .returned (.bool true) ∧ Below w.heap.size w w' := by
  obtain ⟨i0, hi, hz0, hz1, hz2⟩ := info_parts u8_info
  have hm := mask255r at_
  have hm0 : 0 ≤ at_ % 256 := by omega
  have hm1 : at_ % 256 < 256 := by omega
  obtain ⟨n, hn⟩ : ∃ n, t.length = n := ⟨_, rfl⟩
  rw [hn] at h0 hl
  obtain ⟨k, hk⟩ : ∃ k : Nat, at_ % 256 % n = k := ⟨(at_ % 256 % n).toNat, by have := Int.emod_nonneg (at_ % 256) (show (n : Int) ≠ 0 by omega); omega⟩
  have hkn : k < n := by have := Int.emod_lt_of_pos (at_ % 256) (show 0 < (n : Int) by omega); omega
  rw [hn]
  have HN := Lib.hid hn; clear hn
  have hne : ((n : Int) == 0) = false := by simp; omega
  obtain ⟨was, hwas⟩ : ∃ s : ByteArray, s = ⟨t.toArray⟩ := ⟨_, rfl⟩
  have HW := Lib.hid hwas; clear hwas
  have HL := Lib.hid hlie; clear hlie
  go_enter Try.func4, Try.ntmps4
  go_wp2_with fail
  refine (A.new w).mono ?_
  rintro e w1 ⟨v, F, rfl, hw1, hF1, hb1⟩
  obtain ⟨p, rfl⟩ := A.ptrW hw1
  have c1 := conv8 (P := Try.prog) (src := 25) (dst := 9) (cap := cap) Try.underlying25 Try.underlying5 Try.underlying9 HN.out (fun h => by cases h) (HL.out.below hb1)
  rw [← HW.out] at c1
  have hown0 : (w1.alloc (.cells #[] 5)).ownsRow w1.heap.size 5 1 (.slice (some ⟨w1.heap.size, 0, none⟩) 0 0) 0 [] := World.ownsRow_made w1 #[] 0 (Nat.le_refl _) (Nat.zero_le _) rfl
  have hsrc : ∀ (j : Nat) (u : Value), (cells8 t)[j]? = some u → (w1.alloc (.cells #[] 5)).cell? (a.add j) = some u := by
    intro j u hu
    obtain ⟨hj, rfl⟩ := cells8_some hu
    rcases (HL.out.below hb1).below ((Below.refl _ _).alloc (Nat.le_refl _) (.cells #[] 5)) with rfl | ⟨a', ha, _, _, hc⟩
    · simp at hj
    · obtain rfl := Option.some.inj ha
      exact hc j hj
  have HS := Lib.hid hsrc; clear hsrc
  have HF1 := Lib.hid hF1; clear hF1
  go_wp2_with (at_builtin; refine wpList_append_own _ rfl (.tmp 26) (.tmp 27) _ rfl w1.heap.size 5 i0 (.int .u8 0) 1 1 Try.underlying25 hi hz0 hz1 hz2 rfl (by decide) _ _ _ rfl hown0 a n cap (cells8 t) rfl (by rw [cells8_length, HN.out]; omega) HS.out (cells8_one t) (by unfold maxLen; omega) (by omega) (by simp) ?_)
  intro v1 w2 hown1 hg1 _
  have hb2 : Below w1.heap.size w1 w2 := ((Below.refl _ _).alloc (Nat.le_refl _) _).grown hg1 (by simp) (fun k hk => (hown0.lt k hk).1)
  obtain ⟨g, cap1, rfl, hgb, hgs, hnc1, _, hcell1, hfr1⟩ := own_form (l := t) (by simpa using hown1) (by omega)
  have hw2 := A.keepW hw1 (Chg.of_below (F := fun _ => False) hb2) (fun _ _ h => h)
  have hFg : ¬ F g := fun h => by have := A.ltW hw1 g h; omega
  have hT := A.text (some ⟨g, 0, none⟩) n cap1 t hw2 (by simp) HN.out (by omega) hnc1 (fun h => by cases h) (Or.inr ⟨_, rfl, hgs, hFg, fun j hj => by rw [add_plain, Nat.zero_add]; exact hcell1 j hj⟩)
  have HT := Lib.hid hT
  clear hT hown1 hg1 hown0 c1
  go_wp2_with fail
  refine HT.out.mono ?_
  rintro e w3 ⟨F3, rfl, hw3, hc3, hF3⟩
  rw [List.nil_append] at hw3
  have hg3 : g < w3.heap.size := Nat.lt_of_lt_of_le hgs hc3.size
  have hck : w3.cell? ⟨g, k, none⟩ = some (.int .u8 ((t[k]'(by rw [HN.out]; exact hkn)).toNat : Int)) := (hc3.cell (p := ⟨g, k, none⟩) hgs hFg).trans (hcell1 k (by rw [HN.out]; exact hkn))
  have hfk : w3.frozen? ⟨g, k, none⟩ = false := (World.frozen?_of_block (w := w2) (a := ⟨g, k, none⟩) (hc3.block g hgs hFg)).trans (hfr1 k)
  have hF3g : ¬ F3 g := fun h => (hF3 g h).elim hFg (fun h => by omega)
  have hF3b : ∀ k, F3 k → w.heap.size ≤ k := fun k hk => (hF3 k hk).elim (HF1.out k) (fun h => Nat.le_trans (Nat.le_trans hb1.size hb2.size) h)
  have hbel3 : Below w.heap.size w w3 := below_chg ((hb1.trans (hb2.mono hb1.size))) hc3 (fun i hi hf => by have := HF1.out i hf; omega) (Nat.le_refl _)
  generalize ((t[k]'(by rw [HN.out]; exact hkn)).toNat : Int) = tk at hck
  have hwg : w.heap.size ≤ g := Nat.le_trans hb1.size hgb
  have H1 := Lib.hid hF3g; have H2 := Lib.hid hF3b; have H3 := Lib.hid hbel3; have HC3 := Lib.hid hc3
  clear hcell1 hfr1 HF1 hF3 hF3g hF3b hbel3 hc3 HS hb2 hb1 HT
  have hc4 : Chg (fun j => j = g) w3 (w3.setCell ⟨g, k, none⟩ (.int .u8 ((tk + 1) % 256))) := Chg.setCell (F := fun j => j = g) (p := ⟨g, k, none⟩) (Chg.refl _ w3) (fun _ => rfl) _
  go_wp2_with fail
  clear hck hfk
  generalize w3.setCell ⟨g, k, none⟩ (.int .u8 ((tk + 1) % 256)) = w4 at hc4 ⊢
  have hw4 := A.keepW hw3 hc4 (fun j hj e => H1.out (by rw [← e]; exact hj))
  have hb4 : Below w.heap.size w w4 := below_chg H3.out hc4 (fun i hi e => by subst e; exact absurd hwg (by omega)) (Nat.le_refl _)
  have H4 := Lib.hid hb4; clear hb4 hc4
  have hlen8 : (text8 t).length = 8 + n := by unfold text8; rw [List.length_append, num8_length, HN.out]
  have HL8 := Lib.hid hlen8; clear hlen8
  refine (A.bytes hw4 (by rw [HL8.out]; omega)).mono ?_
  rintro e w5 ⟨x, rfl, hx, hb5⟩
  rw [HL8.out] at hx
  have hx' := hx
  obtain ⟨gx, capx, rfl, hgxb, hgxs, hncx, _, hcellx, hfrx⟩ := own_form hx (by omega)
  have hliex : Lie8 w5 (fun _ => False) (some ⟨gx, 0, none⟩) (text8 t) := Or.inr ⟨_, rfl, hgxs, (fun h => h), fun j hj => by rw [add_plain, Nat.zero_add]; exact hcellx j hj⟩
  have HX := Lib.hid hx; have HLX := Lib.hid hliex; have HCX := Lib.hid hcellx; have HFX := Lib.hid hfrx; have H5 := Lib.hid hb5
  clear hx hx' hliex hcellx hfrx hb5
  obtain ⟨X, hX⟩ : ∃ s : ByteArray, s = ⟨(text8 t).toArray⟩ := ⟨_, rfl⟩
  have HXX := Lib.hid hX; clear hX
  have R : ∀ (w' : World) (a : Addr) (c : Nat), Lie8 w' (fun _ => False) (some a) (text8 t) → (convert 25 9 (.slice (some a) (8 + n) c)).run Try.prog w' = .ok (.string X) w' := fun w' a c h => by
    rw [HXX.out]; exact conv8 Try.underlying25 Try.underlying5 Try.underlying9 HL8.out (fun h => by cases h) h
  have R' := Lib.hid R; clear R
  go_upto_region 12 with fail
  go_cut [51] (fun s51 wx => s51 = .bool false ∧ Below w5.heap.size w5 wx)
  case first =>
    have kb := fun (w : World) (s : ByteArray) => run_bytes_of_string (P := Try.prog) w 9 25 5 s Try.underlying9 Try.underlying25 Try.underlying5
    have q0 := R'.out w5 ⟨gx, 0, none⟩ capx HLX.out
    have q1 := R'.out w5.drew ⟨gx, 0, none⟩ capx HLX.out
    have q2 := fun (o : Obj) => R'.out (w5.alloc o).drew.drew ⟨gx, 0, none⟩ capx (HLX.out.below (((Below.refl _ _).alloc (Nat.le_refl _) o).drew.drew))
    go_region_with (go_at_call 15; refine (rtext_was t n w5 _ _ HN.out (by omega) HW.out).mono ?_; rintro e w6 ⟨g2, cap2, rfl, hb6, hl6⟩; have q3 := R'.out w6 ⟨gx, 0, none⟩ capx (HLX.out.below hb6); have q4 := R'.out w6 ⟨g2, 0, none⟩ cap2 hl6)
    all_goals
      go_wp2_with fail
      go_meet
      first | exact ⟨rfl, by assumption⟩ | exact ⟨rfl, Below.drew (by assumption)⟩
  case rest =>
    obtain ⟨rfl, hb6⟩ := hcut
    have hFgx : ¬ F3 gx := fun h => by have := A.ltW hw4 gx h; omega
    have hw6 := A.keepW hw4 (Chg.of_below (F := fun _ => False) (H5.out.trans (hb6.mono H5.out.size))) (fun _ _ h => h)
    have hgx6 : gx < wc.heap.size := Nat.lt_of_lt_of_le hgxs hb6.size
    have H6 := Lib.hid hb6; clear hb6
    go_wp2_with fail
    refine (A.read (some ⟨gx, 0, none⟩) (8 + n) capx (text8 t) HL8.out (by omega) hncx (fun h => by cases h) (HLX.out.below H6.out)).mono ?_
    rintro e w7 ⟨r, G, rfl, hr7, hG, hb7⟩
    obtain ⟨q, rfl⟩ := A.ptrR hr7
    have hw7 := A.keepW hw6 (Chg.of_below (F := fun _ => False) hb7) (fun _ _ h => h)
    have hGgx : ¬ G gx := fun h => by have := hG gx h; omega
    have hFG : ∀ j, F3 j → ¬ G j := fun j hf hg => by have h1 := A.ltW hw6 j hf; have h2 := hG j hg; omega
    have hb57 : Below w5.heap.size w5 w7 := H6.out.trans (hb7.mono H6.out.size)
    have hcx7 : w7.cell? ⟨gx, 8 + k, none⟩ = some (.int .u8 (((text8 t)[8 + k]'(by rw [HL8.out]; omega)).toNat : Int)) := (hb57.cell (p := ⟨gx, 8 + k, none⟩) hgxs).trans (HCX.out (8 + k) (by rw [HL8.out]; omega))
    have hfx7 : w7.frozen? ⟨gx, 8 + k, none⟩ = false := (hb57.frozen (p := ⟨gx, 8 + k, none⟩) hgxs).trans (HFX.out (8 + k))
    generalize (((text8 t)[8 + k]'(by rw [HL8.out]; omega)).toNat : Int) = tx at hcx7
    have H7 := Lib.hid hG; have H8 := Lib.hid hFG; have H57 := Lib.hid hb57; have HB7 := Lib.hid hb7
    have hc8 : Chg (fun j => j = gx) w7 (w7.setCell ⟨gx, 8 + k, none⟩ (.int .u8 ((tx + 1) % 256))) := Chg.setCell (F := fun j => j = gx) (p := ⟨gx, 8 + k, none⟩) (Chg.refl _ w7) (fun _ => rfl) _
    have HC8 := Lib.hid hc8
    clear hG hFG hb57 hb7 hc8
    have hk8 : (8 : Int) + k < 8 + n := by omega
    go_wp2_with fail
    clear hcx7 hfx7
    generalize w7.setCell ⟨gx, 8 + k, none⟩ (.int .u8 ((tx + 1) % 256)) = w8 at HC8 ⊢
    have hw8 := A.keepW hw7 HC8.out (fun j hj e => hFgx (by rw [← e]; exact hj))
    have hr8 := A.keepR hr7 HC8.out (fun j hj e => hGgx (by rw [← e]; exact hj))
    have hb08 : Below w.heap.size w w8 := below_chg (((H4.out.trans (H57.out.mono (by exact Nat.le_trans H4.out.size H5.out.size) |> (H5.out.mono H4.out.size).trans)))) HC8.out (fun i hi e => by subst e; have := Nat.le_trans H4.out.size hgxb; omega) (Nat.le_refl _)
    have H08 := Lib.hid hb08; clear hb08
    refine (A.bytes hw8 (by rw [HL8.out]; omega)).mono ?_
    rintro e w9 ⟨y, rfl, hy, hb9⟩
    rw [HL8.out] at hy
    obtain ⟨gy, capy, rfl, hgyb, hgys, hncy, _, hcelly, _⟩ := own_form hy (by omega)
    have hliey : Lie8 w9 (fun _ => False) (some ⟨gy, 0, none⟩) (text8 t) := Or.inr ⟨_, rfl, hgys, (fun h => h), fun j hj => by rw [add_plain, Nat.zero_add]; exact hcelly j hj⟩
    have HLY := Lib.hid hliey
    have hr9 := A.keepR hr8 (Chg.of_below (F := fun _ => False) hb9) (fun _ _ h => h)
    have H9 := Lib.hid hb9
    clear hy hliey hcelly hb9
    have hnt : nextText (some (text8 t)) = (t, some []) := by
      have := nextText_text8 t [] (by rw [HN.out]; omega)
      rwa [List.append_nil] at this
    have HNT := Lib.hid hnt; clear hnt
    go_wp2_with fail
    have K := A.rtext hr9
    rw [HNT.out] at K
    refine K.mono ?_
    clear K
    rintro e w10 ⟨z, G2, rfl, hz, hr10, hc10, hG2, _⟩
    simp only at hz hr10
    rw [HN.out] at hz
    obtain ⟨gz, capz, rfl, _, hgzs, hncz, _, hcellz, _⟩ := own_form hz h0
    have hliez : Lie8 w10 (fun _ => False) (some ⟨gz, 0, none⟩) t := Or.inr ⟨_, rfl, hgzs, (fun h => h), fun j hj => by rw [add_plain, Nat.zero_add]; exact hcellz j hj⟩
    have HLZ := Lib.hid hliez; have HC10 := Lib.hid hc10
    have hgy : ¬ G gy := fun h => by have := A.ltR hr8 gy h; omega
    have HLY10 := Lib.hid (lie8_chg_at HLY.out hc10 hgy)
    have hb010 : Below w.heap.size w w10 := below_chg (H08.out.trans (H9.out.mono H08.out.size)) hc10 (fun i hi hg => by have h1 := H7.out i hg; have h2 := Nat.le_trans H4.out.size (Nat.le_trans H5.out.size H6.out.size); omega) (Nat.le_refl _)
    have H010 := Lib.hid hb010
    clear hz hliez hcellz hc10 hG2 hb010 hgy
    go_upto_region 20 with fail
    have kb := fun (w : World) (s : ByteArray) => run_bytes_of_string (P := Try.prog) w 9 25 5 s Try.underlying9 Try.underlying25 Try.underlying5
    have RZ : ∀ (w' : World), Below w10.heap.size w10 w' → (convert 25 9 (.slice (some ⟨gz, 0, none⟩) n capz)).run Try.prog w' = .ok (.string was) w' := fun w' h => by
      rw [HW.out]; exact conv8 Try.underlying25 Try.underlying5 Try.underlying9 HN.out (fun h => by cases h) (HLZ.out.below h)
    have RY : ∀ (w' : World), Below w10.heap.size w10 w' → (convert 25 9 (.slice (some ⟨gy, 0, none⟩) (8 + n) capy)).run Try.prog w' = .ok (.string X) w' := fun w' h => R'.out w' _ _ (HLY10.out.below h)
    have b0 : Below w10.heap.size w10 w10 := Below.refl _ _
    have z0 := RZ w10 b0
    have z1 := RZ w10.drew b0.drew
    have y0 := RY w10 b0
    have y1 := RY w10.drew b0.drew
    have y2 := fun (o : Obj) => RY (w10.alloc o).drew.drew ((b0.alloc (Nat.le_refl _) o).drew.drew)
    have z2 := fun (o : Obj) => RZ (w10.alloc o).drew.drew ((b0.alloc (Nat.le_refl _) o).drew.drew)
    have HRY := Lib.hid RY; have HRZ := Lib.hid RZ
    clear RY RZ b0
    go_region_with (first
      | (go_at_call 15; refine (rtext_was t n w10 _ _ HN.out (by omega) HW.out).mono ?_; rintro e w11 ⟨g2, cap2, rfl, hb11, hl11⟩; have y3 := HRY.out w11 hb11; have z3 := HRZ.out w11 hb11; have y4 := R'.out w11 ⟨g2, 0, none⟩ cap2 hl11)
      | (go_at_call 18; refine (done_true A (A.keepR hr10 (Chg.of_below (F := fun _ => False) hb11) (fun _ _ h => h))).mono ?_; rintro e w12 ⟨rfl, hb12⟩; have hb012 := hb11.trans (hb12.mono hb11.size))
      | (go_at_call 8; refine (awake_any A _).mono ?_; rintro e w13 ⟨rfl, hb13⟩; have hb013 := hb012.trans (hb13.mono hb012.size)))
    all_goals
      go_wp2_with fail
      go_ret
      refine ⟨rfl, H010.out.trans (Below.mono (B := w10.heap.size) ?_ H010.out.size)⟩
      first | assumption | exact Below.drew (by assumption)
end Go.Proofs.Ytcnnfmooigfeiaa
