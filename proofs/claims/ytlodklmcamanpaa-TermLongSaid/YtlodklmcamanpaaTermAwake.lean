/- awake of layer 3 answers true, and makes only new memory. Conditions: term's calls are as their contracts say. -/
import Derived.Test.YtlodklmcamanpaaTermApi
import Derived.Lib.SlBytesConst
import Derived.WalkKit
import Derived.WalkSpells
import Derived.StillTactics
import Derived.Outline
import Derived.Deep.QuietTactic
import Derived.BigQuiet
namespace Go.Proofs.Ytlodklmcamanpaa
open Go.RowKit Go.WideShapes

theorem aw_d1 : digOf [] [] = 1 := by decide +kernel
theorem aw_a1 : digAdd [] [] = [[]] := by decide +kernel
theorem aw_d2 : digOf [[]] [98] = 2 := by decide +kernel
theorem aw_a2 : digAdd [[]] [98] = [[], [98]] := by decide +kernel
theorem aw_d3 : digOf [[], [98]] [] = 1 := by decide +kernel
theorem aw_a3 : digAdd [[], [98]] [] = [[], [98]] := by decide +kernel
theorem aw_o2 : ofOk [[], [98]] 2 = true ∧ ofRow [[], [98]] 2 = [98] := by decide +kernel
theorem aw_o3 : ofOk [[], [98]] 3 = false ∧ ofRow [[], [98]] 3 = [] := by decide +kernel

set_option maxRecDepth 100000 in
set_option maxHeartbeats 2000000 in
theorem awake_any (T : TermApi) (w : World) :
    Calls Try.prog 10 #[] w fun e w' => e = .returned (.bool true) ∧ Below w.heap.size w w' := by
  have kc := fun (w : World) (C : Array Value) (n c : Nat) => Lib.run_convert_bytes_const (P := Try.prog) w 26 5 C n c Try.underlying26 Try.underlying5
  go_enter Try.func10, Try.ntmps10
  go_wp2_with fail
  refine (st_arena T (St.start w w (Below.refl _ _))).mono ?_
  rintro e w1 ⟨p, rfl, h1⟩
  go_wp2_with fail
  have K := h1.digest none 0 0 [] (by decide) rfl (by decide) (by decide) (fun _ => rfl) (Or.inl rfl)
  rw [aw_d1, aw_a1] at K
  refine K.mono ?_
  clear K
  rintro e w2 ⟨rfl, h2⟩
  go_wp2_with fail
  have K := (h2.alloc _).digest (some ⟨w2.heap.size, 0, none⟩) 1 1 [98] (by decide) rfl (by decide) (by decide) (fun h => by cases h) (lie8_made w2 [98] #[.int .u8 98] 5 (1, 2) rfl)
  rw [aw_d2, aw_a2] at K
  refine K.mono ?_
  clear K
  rintro e w3 ⟨rfl, h3⟩
  go_wp2_with fail
  have K := (h3.alloc (.cells #[] 5)).digest (some ⟨w3.heap.size, 0, none⟩) 0 0 [] (by decide) rfl (by decide) (by decide) (fun h => by cases h) (Or.inl rfl)
  rw [aw_d3, aw_a3] at K
  refine K.mono ?_
  clear K
  rintro e w4 ⟨rfl, h4⟩
  go_wp2_with fail
  have K := h4.of 2 (by decide) (by decide) (by decide)
  rw [aw_o2.1, aw_o2.2] at K
  refine K.mono ?_
  clear K
  rintro e w5 ⟨x, rfl, h5⟩
  obtain ⟨A, cap, rfl, hcap, hnil, _⟩ := h5.lieR
  go_wp2_with fail
  have K := h5.swap.of 3 (by decide) (by decide) (by decide)
  rw [aw_o3.1, aw_o3.2] at K
  refine K.mono ?_
  clear K
  rintro e w6 ⟨y, rfl, h6⟩
  have h6' := h6.snd
  go_wp2_with fail
  refine (h6'.len (by decide)).mono ?_
  rintro e w7 ⟨rfl, h7, _⟩
  obtain ⟨A', cap', e, _, _, hlie⟩ := h7.swap.lieR
  injection e with e1 _ e2
  subst e1; subst e2
  have HC : (convert 26 9 (.slice A 1 cap)).run Try.prog w7 = .ok (.string { data := #[98] }) w7 := conv8 (P := Try.prog) (src := 26) (dst := 9) (n := 1) (cap := cap) Try.underlying26 Try.underlying5 Try.underlying9 rfl (fun h => Nat.le_zero.1 (hnil h ▸ hcap)) hlie
  clear hnil hlie h6'
  go_wp2_with fail
  go_ret
  exact ⟨rfl, h7.below⟩
end Go.Proofs.Ytlodklmcamanpaa
