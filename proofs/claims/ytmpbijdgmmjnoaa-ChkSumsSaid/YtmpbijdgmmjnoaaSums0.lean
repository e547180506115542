/- ChkSums answers true of a row of none. Conditions: the number is a word of 64 bits. -/
import Derived.Test.YtmpbijdgmmjnoaaSums
namespace Go.Proofs.Ytmpbijdgmmjnoaa
open Go.RowKit Go.Shelf Go.WideShapes

set_option maxRecDepth 100000 in
set_option maxHeartbeats 4000000 in
theorem sums_none (at_ m : Int) (hm : Word m) (A : Option Addr) (cap : Nat) (hA : A = none → cap = 0) (w : World) :
    Calls Try.prog 4 #[.slice A 0 cap, .int .i64 at_, .int .u64 m] w fun e w' => e = .returned (.bool true) ∧ Below w.heap.size w w' := by
  have h255 := mask255 at_
  have h1 : 0 ≤ at_ % 256 := by omega
  have h2 : at_ % 256 < 256 := by omega
  have h3 : at_ % 256 % 1 = 0 := by omega
  obtain ⟨i0, hi, hz0, hz1, hz2⟩ := info_parts u64_info
  have K4 := Lib.hid fun w => add_is (a := 0) (b := 0) (r := 0) (t := true) word_lit word_lit (by decide) (by decide) w
  obtain ⟨mv, emv⟩ : ∃ p, kept (tot [m]) = p := ⟨_, rfl⟩
  obtain ⟨more, emore⟩ : ∃ p, fits (tot [m]) = p := ⟨_, rfl⟩
  have K6 : ∀ (A : Option Addr) (cap : Nat) (w : World), Lies w A [m] → Calls Try.prog 12 #[.slice A 1 cap] w fun e w' => e = .returned (.tuple #[.int .u64 mv, .bool more]) ∧ w = w' :=
    fun A cap w h => sum_is w rfl (by intro x hx; rw [List.mem_singleton] at hx; subst hx; exact hm) (by simp) emv emore h
  have K6' := Lib.hid K6; clear K6
  clear emv emore
  rcases A with _ | ad
  · obtain rfl := hA rfl
    clear hA
    go_enter Try.func4, Try.ntmps4
    go_wp2_with (first
      | (go_at_call 12; refine (sum_empty _ _ _).mono ?_; rintro e w' ⟨rfl, rfl⟩)
      | ((with_reducible refine (K4.out _).mono ?_); rintro e w' ⟨rfl, rfl⟩))
    refine wp_loop_rounds 1 ?_
    rw [rounds_succ]
    go_upto_region 14 with (first
      | (go_at_call 12; refine (sum_empty _ _ _).mono ?_; rintro e w' ⟨rfl, rfl⟩)
      | ((with_reducible refine (K4.out _).mono ?_); rintro e w' ⟨rfl, rfl⟩))
    have hown1 : (w.alloc (.cells #[] 22)).ownsRow w.heap.size 22 1 (.slice (some ⟨w.heap.size, 0, none⟩) 0 0) 0 [] := World.ownsRow_made w #[] 0 (Nat.le_refl _) (Nat.zero_le _) rfl
    have hb1 : Below w.heap.size w (w.alloc (.cells #[] 22)) := (Below.refl _ _).alloc (Nat.le_refl _) _
    have hsz1 : w.heap.size ≤ (w.alloc (.cells #[] 22)).heap.size := by simp
    have hsrc2 : ∀ (w1 : World) (j : Nat) (u : Value), [Value.int .u64 m][j]? = some u → (w1.alloc (.cells #[.int .u64 m] 22)).cell? ((⟨w1.heap.size, 0, none⟩ : Addr).add j) = some u := by
      intro w1 j u hu
      rcases j with _ | j
      · simp only [List.getElem?_cons_zero, Option.some.injEq] at hu
        subst hu
        rw [add_plain]; simp [go_sem]
      · simp at hu
    have HSRC2 := Lib.hid hsrc2
    clear hsrc2
    go_wp2_with (first
      | (at_builtin; refine wpList_append_own_none (by rfl) (.tmp 77) (.tmp 78) _ rfl w.heap.size 22 i0 1 Try.underlying29 hi _ _ _ rfl hown1 rfl ?_)
      | (at_builtin; refine wpList_append_own _ rfl (.tmp 79) (.tmp 81) _ rfl w.heap.size 22 i0 (.int .u64 0) 1 8 Try.underlying29 hi hz0 hz1 hz2 rfl (by decide) _ _ _ rfl (hown1.alloc _) ⟨_, 0, none⟩ 1 1 [.int .u64 m] rfl rfl (by first | exact HSRC2.out _ | (have h := HSRC2.out (w.alloc (.cells #[] 22)); simp only [World.size_alloc] at h; exact h)) (by intro u hu; rw [List.mem_singleton] at hu; subst hu; rfl) (by unfold maxLen; omega) (by omega) (by first | (simp; omega) | simp) ?_))
    intro v2 w2 hown2 hg2 _
    have hb2 : Below w.heap.size w w2 := (hb1.alloc hsz1 _).grown hg2 (by first | (simp; omega) | simp) (fun k hk => ((hown1.lt k hk).1))
    have hown3 : w2.ownsRow w.heap.size 22 1 v2 1 (cellsOf [m]) := by simpa [cellsOf] using hown2
    obtain ⟨A2, cap2, rfl, _, hlies2⟩ := own_lies hown3
    have K8 := Lib.hid (K6'.out A2 cap2 w2 hlies2)
    have HB2 := Lib.hid hb2
    clear hlies2 hown3 hown2 hown1 hg2 hb2 hb1
    go_wp2_with (first
      | ((with_reducible refine K8.out.mono ?_); rintro e w' ⟨rfl, rfl⟩)
      | (go_at_call 11; refine (awake_any _).mono ?_; rintro e w' ⟨rfl, rfl⟩))
    go_ret
    exact ⟨rfl, HB2.out.alloc HB2.out.size _⟩
  · clear hA
    go_enter Try.func4, Try.ntmps4
    go_wp2_with (first
      | (go_at_call 12; refine (sum_empty _ _ _).mono ?_; rintro e w' ⟨rfl, rfl⟩)
      | ((with_reducible refine (K4.out _).mono ?_); rintro e w' ⟨rfl, rfl⟩))
    refine wp_loop_rounds 1 ?_
    rw [rounds_succ]
    go_upto_region 14 with (first
      | (go_at_call 12; refine (sum_empty _ _ _).mono ?_; rintro e w' ⟨rfl, rfl⟩)
      | ((with_reducible refine (K4.out _).mono ?_); rintro e w' ⟨rfl, rfl⟩))
    have hown0 : (w.alloc (.cells #[] 22)).ownsRow w.heap.size 22 1 (.slice (some ⟨w.heap.size, 0, none⟩) 0 0) 0 [] := World.ownsRow_made w #[] 0 (Nat.le_refl _) (Nat.zero_le _) rfl
    go_wp2_with (at_builtin; refine wpList_append_own _ rfl (.tmp 77) (.tmp 78) _ rfl w.heap.size 22 i0 (.int .u64 0) 1 8 Try.underlying29 hi hz0 hz1 hz2 rfl (by decide) _ _ _ rfl hown0 ad 0 cap [] rfl rfl (by intro j u hu; simp at hu) (by intro u hu; cases hu) (by unfold maxLen; omega) (by omega) (by simp) ?_)
    intro v1 w1 hown1 hg1 _
    have hb1 : Below w.heap.size w w1 := ((Below.refl _ _).alloc (Nat.le_refl _) _).grown hg1 (by simp) (fun k hk => ((hown0.lt k hk).1))
    have hsz1 := hb1.size
    clear hg1 hown0
    have hsrc2 : ∀ (w1 : World) (j : Nat) (u : Value), [Value.int .u64 m][j]? = some u → (w1.alloc (.cells #[.int .u64 m] 22)).cell? ((⟨w1.heap.size, 0, none⟩ : Addr).add j) = some u := by
      intro w1 j u hu
      rcases j with _ | j
      · simp only [List.getElem?_cons_zero, Option.some.injEq] at hu
        subst hu
        rw [add_plain]; simp [go_sem]
      · simp at hu
    have HSRC2 := Lib.hid hsrc2
    clear hsrc2
    go_wp2_with (at_builtin; refine wpList_append_own _ rfl (.tmp 79) (.tmp 81) _ rfl w.heap.size 22 i0 (.int .u64 0) 1 8 Try.underlying29 hi hz0 hz1 hz2 rfl (by decide) _ _ _ rfl (hown1.alloc _) ⟨_, 0, none⟩ 1 1 [.int .u64 m] rfl rfl (HSRC2.out _) (by intro u hu; rw [List.mem_singleton] at hu; subst hu; rfl) (by unfold maxLen; omega) (by omega) (by first | (simp; omega) | simp) ?_)
    intro v2 w2 hown2 hg2 _
    have hb2 : Below w.heap.size w w2 := (hb1.alloc hsz1 _).grown hg2 (by first | (simp; omega) | simp) (fun k hk => ((hown1.lt k hk).1))
    have hown3 : w2.ownsRow w.heap.size 22 1 v2 1 (cellsOf [m]) := by simpa [cellsOf] using hown2
    obtain ⟨A2, cap2, rfl, _, hlies2⟩ := own_lies hown3
    have K8 := Lib.hid (K6'.out A2 cap2 w2 hlies2)
    have HB2 := Lib.hid hb2
    clear hlies2 hown3 hown2 hown1 hg2 hb2 hb1
    go_wp2_with (first
      | ((with_reducible refine K8.out.mono ?_); rintro e w' ⟨rfl, rfl⟩)
      | (go_at_call 11; refine (awake_any _).mono ?_; rintro e w' ⟨rfl, rfl⟩))
    go_ret
    exact ⟨rfl, HB2.out.alloc HB2.out.size _⟩
end Go.Proofs.Ytmpbijdgmmjnoaa
