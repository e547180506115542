/- The document's own vault: Seal and Share. Conditions: it lies in memory and has at most a million things. -/
import Derived.Test.YtdhnpbfoeohhmaaVaultRef
namespace Go.Proofs.Ytdhnpbfoeohhmaa
open Go.RowKit Go.WideShapes

theorem text_new (w : World) (p : Int × List UInt8) (x : ByteArray) (hx : x = ⟨p.2.toArray⟩) (t : TypeId) : ∀ j u, (cellsT [p])[j]? = some u → (w.alloc (.cells #[.int .i64 p.1, .string x] t)).cell? ((⟨w.heap.size, 0, none⟩ : Addr).add j) = some u := by
  intro j u hj
  subst hx
  match j, hj with
  | 0, hj => simp [cellsT] at hj; subst hj; simp [Addr.add]
  | 1, hj => simp [cellsT] at hj; subst hj; simp [Addr.add]

section
variable {w : World} {b : Nat} {n : Int} {s1 s2 : Value} {T : Texts} {L : List (Int × Int)} {F : Nat → Prop}
set_option maxRecDepth 100000 in
set_option maxHeartbeats 4000000 in
theorem vseal_any (label : Int) (A : Option Addr) (len cap : Nat) (t : List UInt8) (h : VaultAt b n s1 s2 T L w F) (hT : T.length ≤ 1000000) (ht : t.length = len) (hA : A = none → cap = 0) (hnc : len ≤ cap) (hl : Lie8 w (fun _ => False) A t) :
    Calls Try.prog 17 #[.pointer (some ⟨b, 0, none⟩), .int .i64 label, .slice A len cap] w fun e w' => e = .returned (.int .i64 ((T.length : Int) + 1)) ∧ ∃ s1', Turns F w w' (VaultAt b n s1' s2 (T ++ [(label, t)]) L) := by
  obtain ⟨i0, hi, hz0, hz1, hz2⟩ := info_parts sealed_info
  have h0 := Turns.begin h
  obtain ⟨hb, c0, c1, c2, f1, hs, hp⟩ := VaultAt.facts h0.pad
  obtain ⟨As, cs, rfl⟩ := rowN_form hs
  obtain ⟨x, hx⟩ : ∃ x : ByteArray, x = ⟨t.toArray⟩ := ⟨_, rfl⟩
  have cv : ∀ q : Nat, (convert 23 9 (.slice A len cap)).run Try.prog (w.drewN q) = .ok (.string x) (w.drewN q) := fun q => by
    rw [hx]; exact conv8 Try.underlying23 Try.underlying5 Try.underlying9 ht (fun h => by have := hA h; omega) (hl.below (below_drewN (Below.refl _ _) q))
  have cv1 : (convert 23 9 (.slice A len cap)).run Try.prog w.drew = .ok (.string x) w.drew := cv 1
  have hst : Turns F w w (star (RowN 67 2 (.slice As T.length cs) T.length (cellsT T)) (PairsAt b #[.int .i64 n, .slice As T.length cs, s2] 46 s2 L)) := h0.comm
  obtain ⟨nt, hn⟩ : ∃ k, T.length = k := ⟨_, rfl⟩
  rw [hn] at hst hs c1 hT ⊢
  have HH := Lib.hid hst; have HS := Lib.hid hs; have HX := Lib.hid hx; have HN := Lib.hid hn
  have m1 : nt + 1 ≤ maxLen := by unfold maxLen; omega
  have m2 : (nt + 1) * 24 ≤ 140737488355328 := by omega
  clear h h0 hst hs hp hx cv hl c0 c2 hn
  go_enter Try.func17, Try.ntmps17
  go_wp2_with fail
  go_region_law ((refine step_append_here rfl (.tmp 11) (.tmp 16) 41 rfl 0 67 i0 (.agg #[.int .i64 0, .string ByteArray.empty]) 2 24 Try.underlying41 hi hz0 hz1 hz2 rfl (by decide) (.slice As nt cs) nt (cellsT T) rfl (World.ownsRow.alloc (w := w.drew) HS.out _) ⟨w.heap.size, 0, none⟩ 1 1 (cellsT [(label, t)]) rfl rfl (text_new w.drew (label, t) x HX.out _) (cellsT_one _) m1 m2 (Nat.zero_le _) ?_; intro v' w1 hown hgr hfr; have hk := ((HH.out.drew.alloc _).rowN_grow hown hgr hfr).comm.assoc; obtain ⟨g, cap', rfl⟩ := ownN_shape hown (Nat.succ_ne_zero _); obtain ⟨_, lt1, hc1, hf1⟩ := Turns.blk hk; have c11 := hc1 1 _ rfl; have f11 := hf1 1; have H1 := Lib.hid hk; clear hk hown hgr hfr hc1 hf1))
  all_goals
    have h2 := H1.out.blk_set 1 (.slice (some ⟨g, 0, none⟩) (nt + 1) cap')
    have hcc := (Turns.blk h2).2.2.1 1 _ rfl
    have H2 := Lib.hid h2
    clear h2
    go_wp2
    go_ret
    refine ⟨rfl, .slice (some ⟨g, 0, none⟩) (nt + 1) cap', ?_⟩
    have h3 := H2.out.assoc'
    rw [VaultAt, List.length_append, cellsT_append, HN.out]
    exact h3

set_option maxRecDepth 100000 in
set_option maxHeartbeats 4000000 in
theorem vshare_any (who c : Int) (h : VaultAt b n s1 s2 T L w F) (hL : L.length ≤ 1000000) :
    Calls Try.prog 18 #[.pointer (some ⟨b, 0, none⟩), .int .i64 who, .int .i64 c] w fun e w' => e = .returned (.bool (isC T c)) ∧ ∃ s2', Turns F w w' (VaultAt b n s1 s2' T (shareAdd T L who c)) := by
  have h0 := Turns.begin h
  obtain ⟨hb, c0, c1, c2, f1, hs, hp⟩ := VaultAt.facts h0.pad
  have K := Lib.hid (vis_any c c1 hs)
  have HH := Lib.hid h0
  unfold shareAdd
  have KI : Hid (∀ w2 s2', Turns F w w2 (VaultAt b n s1 s2' T (signAdd L (who, c))) → Calls Try.prog 26 #[.pointer (some ⟨b, 0, none⟩), .int .i64 c] w2 fun e w' => e = .returned (.bool (isC T c)) ∧ w' = w2) := Lib.hid fun w2 s2' h2 => by
    obtain ⟨_, _, d1, _, _, ds, _⟩ := VaultAt.facts h2.pad
    exact vis_any c d1 ds
  have KP : Hid (Calls Try.prog 27 #[.pointer (some ⟨b, 2, none⟩), .int .i64 who, .int .i64 c] w fun e w' => e = .returned (.tuple #[]) ∧ ∃ s2', Turns F w w' (VaultAt b n s1 s2' T (signAdd L (who, c)))) := Lib.hid <| by
    refine (HH.out.call (Q := fun e w' F => e = .returned (.tuple #[]) ∧ ∃ s2', PairsAt b #[.int .i64 n, s1, s2'] 46 s2' (signAdd L (who, c)) w' F) (fun F hp => ?_)).mono ?_
    · refine (rput_any who c hp rfl hL).mono ?_
      rintro e w' ⟨he, s', F', h1, h2, h3⟩
      exact ⟨F', ⟨he, s', h1⟩, h2, h3⟩
    · rintro e w' hs
      obtain ⟨F, ⟨A', B', ⟨he, s', hp⟩, r⟩, r2⟩ := hs
      exact ⟨he, s', F, ⟨A', B', hp, r⟩, r2⟩
  obtain ⟨q, hq⟩ : ∃ q, isC T c = q := ⟨_, rfl⟩
  rw [hq] at K KI ⊢
  clear h h0 hs hp c0 c1 c2 f1 hq
  rcases q with _ | _
  · rw [if_neg (by decide)]
    go_enter Try.func18, Try.ntmps18
    go_wp2_with fail
    refine K.out.mono ?_
    rintro e w2 ⟨rfl, rfl⟩
    go_wp2_with fail
    refine K.out.mono ?_
    rintro e w3 ⟨rfl, rfl⟩
    go_wp2_with fail
    go_ret
    exact ⟨rfl, s2, HH.out⟩
  · rw [if_pos rfl]
    go_enter Try.func18, Try.ntmps18
    go_wp2_with fail
    refine K.out.mono ?_
    rintro e w2 ⟨rfl, rfl⟩
    go_wp2_with fail
    refine KP.out.mono ?_
    rintro e w3 ⟨rfl, s2', h3⟩
    have H3 := Lib.hid h3
    have K3 := Lib.hid (KI.out w3 s2' h3)
    clear h3 KP KI K
    go_wp2_with fail
    refine K3.out.mono ?_
    rintro e w4 ⟨rfl, rfl⟩
    go_wp2_with fail
    go_ret
    exact ⟨rfl, s2', H3.out⟩
end
end Go.Proofs.Ytdhnpbfoeohhmaa
