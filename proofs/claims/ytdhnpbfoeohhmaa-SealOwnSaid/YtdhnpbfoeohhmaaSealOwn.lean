/- SealOwn answers true, and makes only new memory. Conditions: seal's calls are as their contracts say; the bytes lie in memory. -/
import Derived.Test.YtdhnpbfoeohhmaaSealAwake
import Derived.Test.YtdhnpbfoeohhmaaView
namespace Go.Proofs.Ytdhnpbfoeohhmaa
open Go.RowKit Go.WideShapes

theorem vown_short (S : SealApi) (a : Option Addr) (n cap : Nat) (at_ : Int) (hn : n = 0 ∨ 200 < n) (hn2 : n ≤ 9223372036854775807) (w : World) :
    Calls Try.prog 4 #[.slice a n cap, .int .i64 at_] w fun e w' => e = .returned (.bool true) ∧ Below w.heap.size w w' := by
  rcases hn with rfl | hn
  · go_enter Try.func4, Try.ntmps4
    go_wp2_with fail
    refine (vawake_any S _).mono ?_
    rintro e w2 ⟨rfl, hb2⟩
    have HB := Lib.hid hb2
    clear hb2
    go_wp2_with fail
    go_ret
    exact ⟨rfl, HB.out⟩
  · have h0 : 0 < n := by omega
    have h1 : ((n : Int) == 0) = false := by simp; omega
    go_enter Try.func4, Try.ntmps4
    go_wp2_with fail
    refine (vawake_any S _).mono ?_
    rintro e w2 ⟨rfl, hb2⟩
    have HB := Lib.hid hb2
    clear hb2
    go_wp2_with fail
    go_ret
    exact ⟨rfl, HB.out⟩

theorem byte_up (b : UInt8) : (((b + 1).toNat : Nat) : Int) = ((b.toNat : Int) + 1) % 256 := by
  rw [UInt8.toNat_add]
  have : (1 : UInt8).toNat = 1 := rfl
  rw [this]; omega
theorem vown_facts (t : List UInt8) : isC [((0 : Int), t)] 1 = true ∧ shareAdd [((0 : Int), t)] [] 3 1 = [(3, 1)] ∧ openOk 1 [((0 : Int), t)] [(3, 1)] 0 1 = true ∧ openRow 1 [((0 : Int), t)] [(3, 1)] 0 1 = t := by
  have h1 : isC [((0 : Int), t)] 1 = true := by simp [isC]
  have ha : allOf [((3 : Int), (1 : Int))] 1 = [3] := by decide +kernel
  have h3 : openOk 1 [((0 : Int), t)] [(3, 1)] 0 1 = true := by rw [openOk, h1, ha]; simp
  refine ⟨h1, ?_, h3, ?_⟩
  · rw [shareAdd, if_pos h1]; decide +kernel
  · rw [openRow, if_pos h3]; simp
theorem vown_only (t : List UInt8) : OnlyC [((0 : Int), t)] [(3, 1)] := by
  have h := (onlyC_nil [((0 : Int), t)]).share 3 1
  rw [(vown_facts t).2.1] at h
  exact h

set_option maxRecDepth 100000 in
set_option maxHeartbeats 8000000 in
theorem vown_some (S : SealApi) (a : Addr) (cap : Nat) (t : List UInt8) (at_ : Int) (h0 : 0 < t.length) (hl : t.length ≤ 200) (w : World) (hlie : Lie8 w (fun _ => False) (some a) t) :
    Calls Try.prog 4 #[.slice (some a) t.length cap, .int .i64 at_] w fun e w' => e = .returned (.bool true) ∧ Below w.heap.size w w' := by
  obtain ⟨i0, hi, hz0, hz1, hz2⟩ := info_parts u8_info
  have hm := and255 at_
  have hm0 : 0 ≤ at_ % 256 := by omega
  have hm1 : at_ % 256 < 256 := by omega
  obtain ⟨n, hn⟩ : ∃ n, t.length = n := ⟨_, rfl⟩
  rw [hn] at h0 hl
  obtain ⟨k, hk⟩ : ∃ k : Nat, at_ % 256 % n = k := ⟨(at_ % 256 % n).toNat, by have := Int.emod_nonneg (at_ % 256) (show (n : Int) ≠ 0 by omega); omega⟩
  have hkn : k < n := by have := Int.emod_lt_of_pos (at_ % 256) (show 0 < (n : Int) by omega); omega
  rw [hn]
  have HN := Lib.hid hn; clear hn
  have hne : ((n : Int) == 0) = false := by simp; omega
  obtain ⟨was, hwas⟩ : ∃ s : ByteArray, s = ⟨t.toArray⟩ := ⟨_, rfl⟩
  have HW := Lib.hid hwas; clear hwas
  have HL := Lib.hid hlie; clear hlie
  go_enter Try.func4, Try.ntmps4
  go_wp2_with fail
  refine (st_vault S (St.start w w (Below.refl _ _)) 1 (by decide)).mono ?_
  rintro e w1 ⟨p, rfl, h1⟩
  have c1 := conv8 (P := Try.prog) (src := 23) (dst := 9) (cap := cap) Try.underlying23 Try.underlying5 Try.underlying9 HN.out (fun h => by cases h) (HL.out.below h1.below)
  rw [← HW.out] at c1
  have hown0 : (w1.alloc (.cells #[] 5)).ownsRow w1.heap.size 5 1 (.slice (some ⟨w1.heap.size, 0, none⟩) 0 0) 0 [] := World.ownsRow_made w1 #[] 0 (Nat.le_refl _) (Nat.zero_le _) rfl
  have hsrc : ∀ (j : Nat) (u : Value), (cells8 t)[j]? = some u → (w1.alloc (.cells #[] 5)).cell? (a.add j) = some u := by
    intro j u hu
    obtain ⟨hj, rfl⟩ := cells8_some hu
    rcases (HL.out.below h1.below).below ((Below.refl _ _).alloc (Nat.le_refl _) (.cells #[] 5)) with rfl | ⟨a', ha, _, _, hc⟩
    · simp at hj
    · obtain rfl := Option.some.inj ha
      exact hc j hj
  have HS := Lib.hid hsrc; clear hsrc
  go_wp2_with (at_builtin; refine wpList_append_own _ rfl (.tmp 27) (.tmp 28) _ rfl w1.heap.size 5 i0 (.int .u8 0) 1 1 Try.underlying23 hi hz0 hz1 hz2 rfl (by decide) _ _ _ rfl hown0 a n cap (cells8 t) rfl (by rw [cells8_length, HN.out]; omega) HS.out (cells8_one t) (by unfold maxLen; omega) (by omega) (by simp) ?_)
  intro v1 w2 hown1 hg1 _
  have hb2 : Below w1.heap.size w1 w2 := ((Below.refl _ _).alloc (Nat.le_refl _) _).grown hg1 (by simp) (fun k hk => (hown0.lt k hk).1)
  have hown2 : w2.ownsRow w1.heap.size 5 1 v1 t.length (cells8 t) := by rw [HN.out]; simpa using hown1
  have h2 := h1.add hb2 (B8.of hown2) (fun k hk => (hown2.lt k hk).1)
  clear c1 hown1 hg1 hown0 hb2 hown2 h1
  obtain ⟨g, cap1, rfl, hnc1, _, _, _⟩ := h2.cells (by rw [HN.out]; omega)
  rw [HN.out] at hnc1
  have hlie2 := h2.lie
  obtain ⟨_, _, e, _, _, hlie2⟩ := hlie2
  injection e with e1 _ e2
  subst e1; subst e2
  rw [HN.out] at h2 ⊢
  have HLI := Lib.hid hlie2
  clear hlie2
  have H2 := Lib.hid h2
  clear h2
  go_wp2_with fail
  have K := H2.out.swap.vseal 0 (some ⟨g, 0, none⟩) n cap1 t (by simp) (by decide) HN.out (by have := S.lim_ge; omega) hnc1 (fun h => by cases h) HLI.out
  refine K.mono ?_
  clear K
  rintro e w3 ⟨rfl, h3⟩
  change St w w3 (star (S.IsV (.pointer (some p)) 1 [(0, t)] []) _) at h3
  have K := Lib.hid (h3.vshare 3 1 (by simp) (by simp) (onlyC_nil _) (by decide) (by decide))
  rw [(vown_facts t).1, (vown_facts t).2.1] at K
  clear h3
  go_wp2_with fail
  refine K.out.mono ?_
  clear K
  rintro e w4 ⟨rfl, h4⟩
  have hkt : k < t.length := by rw [HN.out]; exact hkn
  have h4s := h4.swap
  obtain ⟨g', cap', e, _, _, hcs, hfs⟩ := (HN.out ▸ h4s : St w w4 (star (B8 (.slice (some ⟨g, 0, none⟩) t.length cap1) t) _)).cells (by rw [HN.out]; omega)
  injection e with e1 _ e2
  injection e1 with e1
  injection e1 with e1 _ _
  subst e1; subst e2
  have hck := hcs k hkt
  have hfk := hfs k
  have hu := byte_up t[k]
  have h5 := ((HN.out ▸ h4s : St w w4 (star (B8 (.slice (some ⟨g, 0, none⟩) t.length cap1) t) _)).set8 k (t[k] + 1)).snd
  rw [hu] at h5
  generalize (t[k].toNat : Int) = tk at hck h5
  have K := Lib.hid (h5.vopen 0 1 (by simp) (by simp) (vown_only t) (by decide) (by decide))
  rw [(vown_facts t).2.2.1, (vown_facts t).2.2.2] at K
  clear h4s h4 hcs hfs h5 hu HLI H2
  go_wp2_with fail
  clear hck hfk
  refine K.out.mono ?_
  clear K
  rintro e w5 ⟨x, rfl, h5⟩
  obtain ⟨gx, ox, capx, rfl, _, _, hcx⟩ := h5.cellsR (by rw [HN.out]; omega)
  obtain ⟨_, _, e, _, _, hlx⟩ := h5.lieR
  injection e with e1 _ e2
  subst e1; subst e2
  have c5 := conv8 (P := Try.prog) (src := 23) (dst := 9) (cap := capx) Try.underlying23 Try.underlying5 Try.underlying9 HN.out (fun h => by cases h) hlx
  rw [← HW.out] at c5
  have hck := (hcx k hkt).1
  have hfk := (hcx k hkt).2
  have hu := byte_up t[k]
  have h6 := (h5.setR k hkt (t[k] + 1)).snd
  rw [hu] at h6
  generalize (t[k].toNat : Int) = tk at hck h6
  have K := Lib.hid (h6.vopen 0 1 (by simp) (by simp) (vown_only t) (by decide) (by decide))
  rw [(vown_facts t).2.2.1, (vown_facts t).2.2.2] at K
  clear h5 hcx hlx hu h6
  rw [HN.out]
  go_wp2_with fail
  clear hck hfk c5
  refine K.out.mono ?_
  clear K
  rintro e w7 ⟨y, rfl, h7⟩
  obtain ⟨Ay, capy, rfl, hcy, hny, hly⟩ := h7.lieR
  have c7 := conv8 (P := Try.prog) (src := 23) (dst := 9) (cap := capy) Try.underlying23 Try.underlying5 Try.underlying9 HN.out (fun h => by have := hny h; omega) hly
  rw [← HW.out] at c7
  have HB := Lib.hid h7.below
  have hsz := h7.size
  have HSZ := Lib.hid hsz
  clear hcy hny hly h7 hsz
  rw [HN.out]
  go_wp2_with fail
  refine (vawake_any S _).mono ?_
  rintro e w10 ⟨rfl, hb10⟩
  have HB10 := Lib.hid hb10
  clear hb10
  go_wp2_with fail
  go_ret
  exact ⟨rfl, HB.out.trans (HB10.out.mono HSZ.out)⟩
end Go.Proofs.Ytdhnpbfoeohhmaa
