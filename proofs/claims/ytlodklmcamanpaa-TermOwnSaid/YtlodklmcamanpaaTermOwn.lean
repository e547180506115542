/- TermOwn answers true, and makes only new memory. Conditions: term's calls are as their contracts say; the bytes lie in memory. -/
import Derived.Test.YtlodklmcamanpaaTermAwake
namespace Go.Proofs.Ytlodklmcamanpaa
open Go.RowKit Go.WideShapes

theorem own_short (T : TermApi) (a : Option Addr) (n cap : Nat) (at_ : Int) (hn : n = 0 ∨ 200 < n) (hn2 : n ≤ 9223372036854775807) (w : World) :
    Calls Try.prog 6 #[.slice a n cap, .int .i64 at_] w fun e w' => e = .returned (.bool true) ∧ Below w.heap.size w w' := by
  rcases hn with rfl | hn
  · go_enter Try.func6, Try.ntmps6
    go_wp2_with fail
    refine (st_arena T (St.start w w (Below.refl _ _))).mono ?_
    rintro e w1 ⟨p, rfl, h1⟩
    go_wp2_with (go_at_call 10; refine (awake_any T _).mono ?_; rintro e w2 ⟨rfl, hb2⟩)
    go_ret
    exact ⟨rfl, h1.below.trans (hb2.mono h1.size)⟩
  · have h0 : 0 < n := by omega
    have h1 : ((n : Int) == 0) = false := by simp; omega
    go_enter Try.func6, Try.ntmps6
    go_wp2_with fail
    refine (st_arena T (St.start w w (Below.refl _ _))).mono ?_
    rintro e w1 ⟨p, rfl, h1⟩
    go_wp2_with (go_at_call 10; refine (awake_any T _).mono ?_; rintro e w2 ⟨rfl, hb2⟩)
    go_ret
    exact ⟨rfl, h1.below.trans (hb2.mono h1.size)⟩

theorem byte_up (b : UInt8) : (((b + 1).toNat : Nat) : Int) = ((b.toNat : Int) + 1) % 256 := by
  rw [UInt8.toNat_add]
  have : (1 : UInt8).toNat = 1 := rfl
  rw [this]; omega
theorem own_dig {t u : List UInt8} (h : u ≠ t) : digOf [t] u = 2 := by
  rw [digOf_new (by simpa using h)]; rfl
theorem own_same (t : List UInt8) : digOf [t] t = 1 ∧ digAdd [t] t = [t] ∧ ofOk [t] 1 = true ∧ ofRow [t] 1 = t := by
  refine ⟨by simp [digOf], by simp [digAdd], by simp [ofOk], by simp [ofRow]⟩
theorem own_first (t : List UInt8) : digOf [] t = 1 ∧ digAdd [] t = [t] := by
  refine ⟨by simp [digOf], by simp [digAdd]⟩
theorem set_ne {t : List UInt8} {k : Nat} (h : k < t.length) : t.set k (t[k] + 1) ≠ t := by
  intro e
  have := congrArg (fun l : List UInt8 => l[k]?) e
  simp only [List.getElem?_set_self h, List.getElem?_eq_getElem h, Option.some.injEq] at this
  have := congrArg UInt8.toNat this
  rw [UInt8.toNat_add] at this
  have h1 : (1 : UInt8).toNat = 1 := rfl
  have := t[k].toNat_lt
  omega

set_option maxRecDepth 100000 in
set_option maxHeartbeats 8000000 in
theorem own_some (T : TermApi) (a : Addr) (cap : Nat) (t : List UInt8) (at_ : Int) (h0 : 0 < t.length) (hl : t.length ≤ 200) (w : World) (hlie : Lie8 w (fun _ => False) (some a) t) :
    Calls Try.prog 6 #[.slice (some a) t.length cap, .int .i64 at_] w fun e w' => e = .returned (.bool true) ∧ Below w.heap.size w w' := by
  obtain ⟨i0, hi, hz0, hz1, hz2⟩ := info_parts u8_info
  have hm := and255 at_
  have hm0 : 0 ≤ at_ % 256 := by omega
  have hm1 : at_ % 256 < 256 := by omega
  obtain ⟨n, hn⟩ : ∃ n, t.length = n := ⟨_, rfl⟩
  rw [hn] at h0 hl
  obtain ⟨k, hk⟩ : ∃ k : Nat, at_ % 256 % n = k := ⟨(at_ % 256 % n).toNat, by have := Int.emod_nonneg (at_ % 256) (show (n : Int) ≠ 0 by omega); omega⟩
  have hkn : k < n := by have := Int.emod_lt_of_pos (at_ % 256) (show 0 < (n : Int) by omega); omega
  rw [hn]
  have HN := Lib.hid hn; clear hn
  have hne : ((n : Int) == 0) = false := by simp; omega
  obtain ⟨was, hwas⟩ : ∃ s : ByteArray, s = ⟨t.toArray⟩ := ⟨_, rfl⟩
  have HW := Lib.hid hwas; clear hwas
  have HL := Lib.hid hlie; clear hlie
  go_enter Try.func6, Try.ntmps6
  go_wp2_with fail
  refine (st_arena T (St.start w w (Below.refl _ _))).mono ?_
  rintro e w1 ⟨p, rfl, h1⟩
  have c1 := conv8 (P := Try.prog) (src := 26) (dst := 9) (cap := cap) Try.underlying26 Try.underlying5 Try.underlying9 HN.out (fun h => by cases h) (HL.out.below h1.below)
  rw [← HW.out] at c1
  have hown0 : (w1.alloc (.cells #[] 5)).ownsRow w1.heap.size 5 1 (.slice (some ⟨w1.heap.size, 0, none⟩) 0 0) 0 [] := World.ownsRow_made w1 #[] 0 (Nat.le_refl _) (Nat.zero_le _) rfl
  have hsrc : ∀ (j : Nat) (u : Value), (cells8 t)[j]? = some u → (w1.alloc (.cells #[] 5)).cell? (a.add j) = some u := by
    intro j u hu
    obtain ⟨hj, rfl⟩ := cells8_some hu
    rcases (HL.out.below h1.below).below ((Below.refl _ _).alloc (Nat.le_refl _) (.cells #[] 5)) with rfl | ⟨a', ha, _, _, hc⟩
    · simp at hj
    · obtain rfl := Option.some.inj ha
      exact hc j hj
  have HS := Lib.hid hsrc; clear hsrc
  go_wp2_with (at_builtin; refine wpList_append_own _ rfl (.tmp 32) (.tmp 33) _ rfl w1.heap.size 5 i0 (.int .u8 0) 1 1 Try.underlying26 hi hz0 hz1 hz2 rfl (by decide) _ _ _ rfl hown0 a n cap (cells8 t) rfl (by rw [cells8_length, HN.out]; omega) HS.out (cells8_one t) (by unfold maxLen; omega) (by omega) (by simp) ?_)
  intro v1 w2 hown1 hg1 _
  have hb2 : Below w1.heap.size w1 w2 := ((Below.refl _ _).alloc (Nat.le_refl _) _).grown hg1 (by simp) (fun k hk => (hown0.lt k hk).1)
  have hown2 : w2.ownsRow w1.heap.size 5 1 v1 t.length (cells8 t) := by rw [HN.out]; simpa using hown1
  have h2 := h1.add hb2 (B8.of hown2) (fun k hk => (hown2.lt k hk).1)
  clear c1 hown1 hg1 hown0 hb2 hown2 h1
  obtain ⟨g, cap1, rfl, hnc1, _, _, _⟩ := h2.cells (by rw [HN.out]; omega)
  rw [HN.out] at hnc1
  have hlie2 := h2.lie
  obtain ⟨_, _, e, _, _, hlie2⟩ := hlie2
  injection e with e1 _ e2
  subst e1; subst e2
  rw [HN.out] at h2 ⊢
  have HLI := Lib.hid hlie2
  clear hlie2
  have H2 := Lib.hid h2
  clear h2
  go_wp2_with fail
  have K := H2.out.swap.digest (some ⟨g, 0, none⟩) n cap1 t (by decide) HN.out (by omega) hnc1 (fun h => by cases h) HLI.out
  rw [(own_first t).1, (own_first t).2] at K
  refine K.mono ?_
  clear K
  rintro e w3 ⟨rfl, h3⟩
  have hkt : k < t.length := by rw [HN.out]; exact hkn
  have h3s := h3.swap
  obtain ⟨g', cap', e, _, _, hcs, hfs⟩ := (HN.out ▸ h3s : St w w3 (star (B8 (.slice (some ⟨g, 0, none⟩) t.length cap1) t) _)).cells (by rw [HN.out]; omega)
  injection e with e1 _ e2
  injection e1 with e1
  injection e1 with e1 _ _
  subst e1; subst e2
  have hck := hcs k hkt
  have hfk := hfs k
  have hu := byte_up t[k]
  have h4 := (HN.out ▸ h3s : St w w3 (star (B8 (.slice (some ⟨g, 0, none⟩) t.length cap1) t) _)).set8 k (t[k] + 1)
  rw [hu, HN.out] at h4
  have HNE := Lib.hid (set_ne hkt)
  have HU : Hid (∃ u : List UInt8, u = t.set k (t[k] + 1)) := Lib.hid ⟨_, rfl⟩
  generalize hgu : t.set k (t[k] + 1) = u at h4 HNE
  have hul : u.length = n := by rw [← hgu, List.length_set, HN.out]
  have HUL := Lib.hid hul
  generalize (t[k].toNat : Int) = tk at hck h4
  have H4 := Lib.hid h4
  clear h3s h3 hcs hfs h4 hu HU hgu hul HLI H2
  go_wp2_with fail
  clear hck hfk
  generalize w3.setCell ⟨g, k, none⟩ (.int .u8 ((tk + 1) % 256)) = w4 at H4 ⊢
  have K := H4.out.swap.of 1 (by simp) (by decide) (by decide)
  rw [(own_same t).2.2.1, (own_same t).2.2.2] at K
  refine K.mono ?_
  clear K
  rintro e w5 ⟨x, rfl, h5⟩
  obtain ⟨gx, ox, capx, rfl, _, _, hcx⟩ := h5.cellsR (by rw [HN.out]; omega)
  obtain ⟨_, _, e, _, _, hlx⟩ := h5.lieR
  injection e with e1 _ e2
  subst e1; subst e2
  have c5 := conv8 (P := Try.prog) (src := 26) (dst := 9) (cap := capx) Try.underlying26 Try.underlying5 Try.underlying9 HN.out (fun h => by cases h) hlx
  rw [← HW.out] at c5
  have hck := (hcx k hkt).1
  have hfk := (hcx k hkt).2
  have hu := byte_up t[k]
  have h6 := h5.setR k hkt (t[k] + 1)
  rw [hu, HN.out] at h6
  have h6' := h6.snd
  generalize (t[k].toNat : Int) = tk at hck h6'
  have H6 := Lib.hid h6'
  clear h5 hcx hlx hu h6 h6' H4
  rw [HN.out]
  go_wp2_with fail
  clear hck hfk c5
  generalize w5.setCell ⟨gx, ox + k, none⟩ (.int .u8 ((tk + 1) % 256)) = w6 at H6 ⊢
  have K := H6.out.of 1 (by simp) (by decide) (by decide)
  rw [(own_same t).2.2.1, (own_same t).2.2.2] at K
  refine K.mono ?_
  clear K
  rintro e w7 ⟨y, rfl, h7⟩
  obtain ⟨Ay, capy, rfl, hcy, hny, hly⟩ := h7.lieR
  have c7 := conv8 (P := Try.prog) (src := 26) (dst := 9) (cap := capy) Try.underlying26 Try.underlying5 Try.underlying9 HN.out (fun h => by have := hny h; omega) hly
  rw [← HW.out] at c7
  have kb := fun (w : World) (s : ByteArray) => run_bytes_of_string (P := Try.prog) w 9 26 5 s Try.underlying9 Try.underlying26 Try.underlying5
  have H7 := Lib.hid h7
  clear hcy hny hly h7 H6
  rw [HN.out]
  go_wp2_with fail
  clear kb c7
  have hws : was.size = n := by rw [HW.out]; simpa [ByteArray.size] using HN.out
  have h8 : St w (w7.alloc (.cells (bytesRow was (grownCap w7 was.size 0 5)) 5 ((bytesRow was (grownCap w7 was.size 0 5)).size, (bytesRow was (grownCap w7 was.size 0 5)).size + 1))).drew _ := (H7.out.snd.alloc _).drew
  have K := h8.digest (some ⟨w7.heap.size, 0, none⟩) was.size (grownCap w7 was.size 0 5) t (by simp) (by rw [HN.out, hws]) (by omega) (grownCap_ge _ _ _ _) (fun h => by cases h) ((lie8_was w7 t _ _ was HW.out).below (Below.refl _ _).drew)
  rw [(own_same t).1, (own_same t).2.1] at K
  clear h8 hws
  refine K.mono ?_
  clear K
  rintro e w8 ⟨rfl, h8⟩
  obtain ⟨_, _, e, _, _, hlu⟩ := (HUL.out ▸ h8.swap : St w w8 (star (B8 (.slice (some ⟨g, 0, none⟩) u.length cap1) u) _)).lie
  injection e with e1 _ e2
  subst e1; subst e2
  have H8 := Lib.hid h8
  have HLU := Lib.hid hlu
  clear h8 hlu H7
  go_wp2_with fail
  have K := H8.out.digest (some ⟨g, 0, none⟩) n cap1 u (by simp) HUL.out (by omega) hnc1 (fun h => by cases h) HLU.out
  rw [own_dig HNE.out] at K
  refine K.mono ?_
  clear K
  rintro e w9 ⟨rfl, h9⟩
  have H9 := Lib.hid h9.below
  clear h9
  go_wp2_with fail
  refine (awake_any T _).mono ?_
  rintro e w10 ⟨rfl, hb10⟩
  go_wp2_with fail
  go_ret
  exact ⟨rfl, H9.out.trans (hb10.mono H9.out.size)⟩
end Go.Proofs.Ytlodklmcamanpaa
