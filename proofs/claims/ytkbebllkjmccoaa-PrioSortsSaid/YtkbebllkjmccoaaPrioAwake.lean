/- awake of layer 8 answers true, and makes only new memory. Conditions: prio's calls are as their contracts say. -/
import Derived.Test.YtkbebllkjmccoaaPrioApi
import Derived.Test.YtkbebllkjmccoaaBlk
import Derived.WalkKit
import Derived.WalkSpells
import Derived.StillTactics
import Derived.Outline
import Derived.Deep.QuietTactic
import Derived.BigQuiet
import Derived.IntWalk
import Derived.WalkSmall
namespace Go.Proofs.Ytkbebllkjmccoaa
open Go.RowKit Go.WideShapes

abbrev pO1 : OrdV := ⟨2, 0, false, 5, 1⟩
abbrev pO2 : OrdV := ⟨1, 0, false, 5, 2⟩
abbrev pO3 : OrdV := ⟨3, 0, false, 4, 3⟩
theorem pa_1 : insQ true pO1 [] = [pO1] := rfl
theorem pa_2 : insQ true pO2 [pO1] = [pO2, pO1] := by decide +kernel
theorem pa_3 : insQ true pO3 [pO2, pO1] = [pO3, pO2, pO1] := by decide +kernel
theorem pg_1 : GoodQ true [pO1] := (goodQ_nil true).push (o := pO1) (ok_small (by decide) (by decide) (by decide) (by decide)) (fun p hp => by cases hp)
theorem pg_2 : GoodQ true [pO2, pO1] := by
  have := pg_1.push (o := pO2) (ok_small (by decide) (by decide) (by decide) (by decide)) (fun p hp => by rw [List.mem_singleton] at hp; subst hp; decide)
  rwa [pa_2] at this
theorem pg_3 : GoodQ true [pO3, pO2, pO1] := by
  have := pg_2.push (o := pO3) (ok_small (by decide) (by decide) (by decide) (by decide)) (fun p hp => by
    rcases List.mem_cons.1 hp with rfl | hp
    · decide
    · rw [List.mem_singleton] at hp; subst hp; decide)
  rwa [pa_3] at this

theorem pa_c : cutQ 2 [pO3, pO2, pO1] = [⟨3, 0, false, 4, 1⟩, pO2, pO1] := by decide +kernel
theorem pg_4 : GoodQ true [⟨3, 0, false, 4, 1⟩, pO2, pO1] := by
  have := pg_3.cut (n := 2) (by decide)
  rwa [pa_c] at this
theorem pa_r : rmQ 2 [pO2, pO1] = [pO2] := by decide +kernel
theorem pg_5 : GoodQ true [pO2] := by
  have := pg_2.rm 2
  rwa [pa_r] at this
theorem pa_f1 : findQ 2 [pO2, pO1] = some pO1 := by decide +kernel
theorem pa_s1 : (findQ 2 [pO2, pO1]).isSome = true := by decide +kernel
theorem pa_s2 : (findQ 2 [pO2]).isSome = false := by decide +kernel

set_option maxRecDepth 100000 in
set_option maxHeartbeats 4000000 in
theorem pawake_any (T : PrioApi) (w : World) :
    Calls Try.prog 12 #[] w fun e w' => e = .returned (.bool true) ∧ Below w.heap.size w w' := by
  go_enter Try.func12, Try.ntmps12
  go_wp2_with fail
  refine (st_queue T (St.start w w (Below.refl _ _)) true).mono ?_
  rintro e w1 ⟨p, rfl, h1⟩
  have K := Lib.hid (h1.qpush pO1 (goodQ_nil true) (by decide) (ok_small (by decide) (by decide) (by decide) (by decide)) (fun p hp => by cases hp))
  rw [pa_1] at K
  clear h1
  go_wp2_with fail
  refine K.out.mono ?_
  clear K
  rintro e w2 ⟨rfl, h2⟩
  have K := Lib.hid (h2.qpush pO2 pg_1 (by decide) (ok_small (by decide) (by decide) (by decide) (by decide)) (fun p hp => by rw [List.mem_singleton] at hp; subst hp; decide))
  rw [pa_2] at K
  clear h2
  go_wp2_with fail
  refine K.out.mono ?_
  clear K
  rintro e w3 ⟨rfl, h3⟩
  have K := Lib.hid (h3.qpush pO3 pg_2 (by decide) (ok_small (by decide) (by decide) (by decide) (by decide)) (fun p hp => by
    rcases List.mem_cons.1 hp with rfl | hp
    · decide
    · rw [List.mem_singleton] at hp; subst hp; decide))
  rw [pa_3] at K
  clear h3
  go_wp2_with fail
  refine K.out.mono ?_
  clear K
  rintro e w4 ⟨rfl, h4⟩
  have K := Lib.hid (h4.qpeek_cons pg_3 (by decide))
  clear h4
  go_wp2_with fail
  refine K.out.mono ?_
  clear K
  rintro e w5 ⟨rfl, h5, _⟩
  obtain ⟨b1, hb1, h6⟩ := h5.local5 #[.int .i64 3, .int .i64 0, .bool false, .int .u64 4, .int .u64 3] 28
  have K := Lib.hid (h6.swap.qcut 2 pg_3 (by decide) (by decide))
  rw [pa_c] at K
  simp only [OrdV.val]
  clear h5 h6
  go_wp2_with fail
  rw [← hb1]
  clear hb1
  refine K.out.mono ?_
  clear K
  rintro e w6 ⟨rfl, h6⟩
  have K := Lib.hid (h6.qpop_cons pg_4 (by decide))
  clear h6
  go_wp2_with fail
  refine K.out.mono ?_
  clear K
  rintro e w7 ⟨rfl, h7⟩
  obtain ⟨b2, hb2, h8⟩ := h7.local5 #[.int .i64 3, .int .i64 0, .bool false, .int .u64 4, .int .u64 1] 28
  have K := Lib.hid (h8.swap.qremove 2 pg_2 (by decide) (by decide))
  rw [pa_r] at K
  simp only [OrdV.val]
  clear h7 h8
  go_wp2_with fail
  rw [← hb2]
  clear hb2
  refine K.out.mono ?_
  clear K
  rintro e w8 ⟨o, ho, rfl, h9⟩
  obtain rfl := ho _ pa_f1
  obtain ⟨b3, hb3, h10⟩ := h9.local5 #[.int .i64 2, .int .i64 0, .bool false, .int .u64 5, .int .u64 1] 28
  have K := Lib.hid (h10.swap.qfind 2 pg_5 (by decide) (by decide))
  simp only [OrdV.val, pa_s1]
  clear h9 h10 ho
  go_wp2_with fail
  rw [← hb3]
  clear hb3
  refine K.out.mono ?_
  clear K
  rintro e w9 ⟨⟨i1, i2, i3, i4, i5⟩, _, rfl, h11, _⟩
  obtain ⟨b4, hb4, h12⟩ := h11.local5 #[.int .i64 i1, .int .i64 i2, .bool i3, .int .u64 i4, .int .u64 i5] 28
  have K := Lib.hid (h12.swap.qall pg_5 (by decide))
  simp only [OrdV.val, pa_s2]
  clear h11 h12
  go_wp2_with fail
  rw [← hb4]
  clear hb4
  refine K.out.mono ?_
  clear K
  rintro e w10 ⟨x, rfl, h13⟩
  obtain ⟨A, cap, rfl, _, _, hx⟩ := h13.rv
  rcases hx with hx | ⟨gx, off, rfl, _, hx⟩
  · cases hx
  have x0 := (hx 0 (by decide)).1
  have x0 : w10.cell? ⟨gx, off, none⟩ = some (.int .i64 1) := x0
  obtain ⟨_, _, q3, _⟩ := h13.snd.snd.snd.blk
  obtain ⟨_, _, q2, _⟩ := h13.snd.snd.snd.snd.blk
  obtain ⟨_, _, q1, _⟩ := h13.snd.snd.snd.snd.snd.blk
  have c30 := q3 0 (.int .i64 2) rfl
  have c20 := q2 0 (.int .i64 3) rfl
  have c24 := q2 4 (.int .u64 1) rfl
  have c10 := q1 0 (.int .i64 3) rfl
  have c14 := q1 4 (.int .u64 3) rfl
  have K := Lib.hid (h13.swap.qlen (by decide))
  clear h13 hx q1 q2 q3
  go_wp2_with fail
  refine K.out.mono ?_
  clear K
  rintro e w11 ⟨rfl, h14, _⟩
  have HB := Lib.hid h14.below
  clear h14
  go_wp2_with fail
  go_ret
  exact ⟨rfl, HB.out⟩
end Go.Proofs.Ytkbebllkjmccoaa
