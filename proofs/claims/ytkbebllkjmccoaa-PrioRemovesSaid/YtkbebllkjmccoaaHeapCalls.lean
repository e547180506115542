/- container/heap's up, down, Push, Pop and Remove over what stands in a row: a heap stays a heap, of the same things but one. Conditions: the five methods keep their contracts; at most a million things. -/
import Derived.Test.YtkbebllkjmccoaaPrioApi
import Derived.Test.YtkbebllkjmccoaaHeap
import Derived.Deep.RegionLaw
import Derived.Deep.RegionWith
import Derived.Deep.RegionHeld3
import Derived.Deep.CutBlock
import Derived.Deep.DeepCutAuto
import Derived.StillTailTactics
import Derived.WalkSmall
namespace Go.Proofs.Ytkbebllkjmccoaa
open Go.RowKit Go.WideShapes

/-- The five methods of what stands in the heap, at p: their contracts. -/
structure HeapIf where
  Hp : Addr → Bool → Ords → HP
  stable : ∀ p up L, Stable (Hp p up L)
  len : ∀ {w p up L F}, Hp p up L w F → L.length ≤ 1000000 → Calls Try.prog 25 #[.pointer (some p)] w fun e w' => e = .returned (.int .i64 L.length) ∧ Below w.heap.size w w'
  less : ∀ {w p up L F} (i j : Nat), Hp p up L w F → L.length ≤ 1000000 → i < L.length → j < L.length → Calls Try.prog 62 #[.pointer (some p), .int .i64 i, .int .i64 j] w fun e w' => e = .returned (.bool (aheadO up (atL L i) (atL L j))) ∧ Below w.heap.size w w'
  swap : ∀ {w p up L F} (i j : Nat), Hp p up L w F → L.length ≤ 1000000 → i < L.length → j < L.length → Calls Try.prog 65 #[.pointer (some p), .int .i64 i, .int .i64 j] w fun e w' => e = .returned (.tuple #[]) ∧ Turns F w w' (Hp p up (swapL L i j))
  push : ∀ {w p up L F} (o : OrdV), Hp p up L w F → L.length ≤ 1000000 → o.ok → Calls Try.prog 64 #[.pointer (some p), .iface 28 o.val] w fun e w' => e = .returned (.tuple #[]) ∧ Turns F w w' (Hp p up (L ++ [o]))
  pop : ∀ {w p up L F} (o : OrdV), Hp p up (L ++ [o]) w F → L.length ≤ 1000000 → Calls Try.prog 63 #[.pointer (some p)] w fun e w' => e = .returned (.iface 28 o.val) ∧ Turns F w w' (Hp p up L)
instance heapif_stable (H : HeapIf) (p : Addr) (up : Bool) (L : Ords) : Stable (H.Hp p up L) := H.stable p up L

theorem ahead_ord (up : Bool) : IsOrd (aheadO up) where
  asym := by
    intro a b h
    unfold aheadO at *
    cases up
    all_goals
      split at h <;> split <;> simp at h ⊢ <;> omega
  trans := by
    intro a b c h1 h2
    unfold aheadO at *
    cases up
    all_goals
      split at h1 <;> split at h2 <;> split <;> simp at h1 h2 ⊢ <;> omega

/-- Which function a method's name leads to. -/
theorem m_less (p : Addr) (w : World) (k : Nat) : (method (k + 1) 56 (.pointer (some p)) "Less").run Try.prog w = .ok (62, .pointer (some p)) w := by kernel_rfl
theorem m_swap (p : Addr) (w : World) (k : Nat) : (method (k + 1) 56 (.pointer (some p)) "Swap").run Try.prog w = .ok (65, .pointer (some p)) w := by kernel_rfl
theorem m_len (p : Addr) (w : World) (k : Nat) : (method (k + 1) 56 (.pointer (some p)) "Len").run Try.prog w = .ok (25, .pointer (some p)) w := by kernel_rfl
theorem m_push (p : Addr) (w : World) (k : Nat) : (method (k + 1) 56 (.pointer (some p)) "Push").run Try.prog w = .ok (64, .pointer (some p)) w := by kernel_rfl
theorem m_pop (p : Addr) (w : World) (k : Nat) : (method (k + 1) 56 (.pointer (some p)) "Pop").run Try.prog w = .ok (63, .pointer (some p)) w := by kernel_rfl

section
variable {F0 : Nat → Prop} {w0 w : World} {p : Addr} {up : Bool} {L : Ords} {R : HP} (H : HeapIf)
theorem Turns.hless (h : Turns F0 w0 w (H.Hp p up L)) (i j : Nat) (hl : L.length ≤ 1000000) (hi : i < L.length) (hj : j < L.length) :
    Calls Try.prog 62 #[.pointer (some p), .int .i64 i, .int .i64 j] w fun e w' => e = .returned (.bool (aheadO up (atL L i) (atL L j))) ∧ Turns F0 w0 w' (H.Hp p up L) := by
  have h' := h
  obtain ⟨F, hp, _⟩ := h
  exact (H.less i j hp hl hi hj).mono fun e w' ⟨he, hb⟩ => ⟨he, h'.more hb⟩
theorem Turns.hlen (h : Turns F0 w0 w (H.Hp p up L)) (hl : L.length ≤ 1000000) :
    Calls Try.prog 25 #[.pointer (some p)] w fun e w' => e = .returned (.int .i64 L.length) ∧ Turns F0 w0 w' (H.Hp p up L) := by
  have h' := h
  obtain ⟨F, hp, _⟩ := h
  exact (H.len hp hl).mono fun e w' ⟨he, hb⟩ => ⟨he, h'.more hb⟩
theorem Turns.hswap (h : Turns F0 w0 w (H.Hp p up L)) (i j : Nat) (hl : L.length ≤ 1000000) (hi : i < L.length) (hj : j < L.length) :
    Calls Try.prog 65 #[.pointer (some p), .int .i64 i, .int .i64 j] w fun e w' => e = .returned (.tuple #[]) ∧ Turns F0 w0 w' (H.Hp p up (swapL L i j)) := by
  refine (h.call1 (Q := fun e w' F => e = .returned (.tuple #[]) ∧ H.Hp p up (swapL L i j) w' F) (fun F hp => (H.swap i j hp hl hi hj).mono ?_)).mono ?_
  · rintro e w' ⟨he, F', h1, h2, h3⟩
    exact ⟨F', ⟨he, h1⟩, h2, h3⟩
  · rintro e w' ⟨F, ⟨he, hp⟩, r⟩
    exact ⟨he, F, hp, r⟩

theorem Turns.hpush (h : Turns F0 w0 w (H.Hp p up L)) (o : OrdV) (hl : L.length ≤ 1000000) (ho : o.ok) :
    Calls Try.prog 64 #[.pointer (some p), .iface 28 o.val] w fun e w' => e = .returned (.tuple #[]) ∧ Turns F0 w0 w' (H.Hp p up (L ++ [o])) := by
  refine (h.call1 (Q := fun e w' F => e = .returned (.tuple #[]) ∧ H.Hp p up (L ++ [o]) w' F) (fun F hp => (H.push o hp hl ho).mono ?_)).mono ?_
  · rintro e w' ⟨he, F', h1, h2, h3⟩
    exact ⟨F', ⟨he, h1⟩, h2, h3⟩
  · rintro e w' ⟨F, ⟨he, hp⟩, r⟩
    exact ⟨he, F, hp, r⟩
theorem Turns.hpop (o : OrdV) (h : Turns F0 w0 w (H.Hp p up (L ++ [o]))) (hl : L.length ≤ 1000000) :
    Calls Try.prog 63 #[.pointer (some p)] w fun e w' => e = .returned (.iface 28 o.val) ∧ Turns F0 w0 w' (H.Hp p up L) := by
  refine (h.call1 (Q := fun e w' F => e = .returned (.iface 28 o.val) ∧ H.Hp p up L w' F) (fun F hp => (H.pop o hp hl).mono ?_)).mono ?_
  · rintro e w' ⟨he, F', h1, h2, h3⟩
    exact ⟨F', ⟨he, h1⟩, h2, h3⟩
  · rintro e w' ⟨F, ⟨he, hp⟩, r⟩
    exact ⟨he, F, hp, r⟩

set_option maxRecDepth 100000 in
set_option maxHeartbeats 4000000 in
theorem heap_up (j n : Nat) (h : Turns F0 w0 w (H.Hp p up L)) (hl : L.length ≤ 1000000) (hn : n ≤ L.length) (hj : j < n) (hu : UpOk (aheadO up) L n j) :
    Calls Try.prog 31 #[.iface 56 (.pointer (some p)), .int .i64 j] w fun e w' => e = .returned (.tuple #[]) ∧ ∃ L', L'.Perm L ∧ HeapTo (aheadO up) L' n ∧ (∀ k, n ≤ k → atL L' k = atL L k) ∧ Turns F0 w0 w' (H.Hp p up L') := by
  have H0 := Lib.hid h
  have HU := Lib.hid hu
  clear h hu
  go_enter Try.func31, Try.ntmps31
  go_wp2_with fail
  go_loopw [1] (fun jv wr => ∃ (j : Nat) (L' : Ords), jv = .int .i64 j ∧ j < n ∧ L'.Perm L ∧ UpOk (aheadO up) L' n j ∧ (∀ k, n ≤ k → atL L' k = atL L k) ∧ Turns F0 w0 wr (H.Hp p up L')) (fun jv _ => (intOf jv).toNat)
  case atStart => exact ⟨j, L, rfl, hj, .refl _, HU.out, fun _ _ => rfl, H0.out⟩
  case round =>
    obtain ⟨j', L', rfl, hj', hp, hu, hk, ht⟩ := hrel
    have hl' : L'.length = L.length := hp.length_eq
    rcases Nat.eq_zero_or_pos j' with rfl | hpos
    · have HT := Lib.hid ht; have HP := Lib.hid hp; have HD := Lib.hid (hu.done (Or.inl rfl)); have HK := Lib.hid hk
      clear ht hp hu hk
      go_wp2_with fail
      go_end0
      exact ⟨rfl, L', HP.out, HD.out, HK.out, HT.out⟩
    · obtain ⟨i, hi⟩ : ∃ i, (j' - 1) / 2 = i := ⟨_, rfl⟩
      obtain ⟨J, hJ⟩ : ∃ J : Int, (j' : Int) = J := ⟨_, rfl⟩
      obtain ⟨I, hI⟩ : ∃ I : Int, (i : Int) = I := ⟨_, rfl⟩
      have e1 : IntKind.i64.wrap (J - 1) = J - 1 := IntWalk.i64_in _ (by omega)
      have e2 : (J - 1).tdiv 2 = I := by
        rw [Int.tdiv_eq_ediv_of_nonneg (by omega)]; omega
      have e3 : IntKind.i64.wrap I = I := IntWalk.i64_in _ (by omega)
      have e4 : ¬ I = J := by omega
      have hil : i < L'.length := by omega
      have hjl : j' < L'.length := by omega
      have KL := Turns.hless H ht j' i (by omega) hjl hil
      rw [hJ, hI] at KL
      have HN := Lib.hid (show L'.length ≤ 1000000 by omega)
      have ml := m_less p
      have ms := m_swap p
      by_cases hb : aheadO up (atL L' j') (atL L' i) = true
      · have hus := hu.step (ahead_ord up) (by omega) hpos hj' (by rw [hi]; exact hb)
        rw [hi] at hus
        have HS := Lib.hid hus
        have HP := Lib.hid ((swapL_perm hil hjl).trans hp)
        have HK := Lib.hid (show ∀ k, n ≤ k → atL (swapL L' i j') k = atL L k from fun k h => by rw [swapL_at hil hjl, if_neg (by omega), if_neg (by omega)]; exact hk k h)
        rw [hb] at KL
        have KL := Lib.hid KL; have HIL := Lib.hid hil; have HJL := Lib.hid hjl; have HJ := Lib.hid hJ; have HI := Lib.hid hI; have HR := Lib.hid (show (intOf (.int .i64 I)).toNat < (intOf (.int .i64 J)).toNat by simp [intOf]; omega); have HIN := Lib.hid (show i < n by omega)
        clear ht hu hp hk hb hil hjl hi hus hl' hpos hj' hI
        rw [hJ]
        clear hJ
        go_wp2_with fail
        refine KL.out.mono ?_
        rintro e w2 ⟨rfl, ht2⟩
        have KS := Turns.hswap H ht2 i j' HN.out HIL.out HJL.out
        rw [HI.out, HJ.out] at KS
        have KS := Lib.hid KS
        clear ht2
        go_wp2_with fail
        refine KS.out.mono ?_
        rintro e w3 ⟨rfl, ht3⟩
        have HT := Lib.hid ht3
        clear ht3
        go_wp2_with fail
        go_roundw
        case rel => exact ⟨i, _, by rw [HI.out], HIN.out, HP.out, HS.out, HK.out, HT.out⟩
        case measure => exact HR.out
      · have hbf : aheadO up (atL L' j') (atL L' i) = false := by simpa using hb
        have HD := Lib.hid (hu.done (Or.inr (by unfold Edge; rw [hi]; exact hbf)))
        have HP := Lib.hid hp; have HK := Lib.hid hk
        rw [hbf] at KL
        have KL := Lib.hid KL
        clear ht hu hp hk hb hbf hil hjl hi hl' hpos hj' hI
        rw [hJ]
        clear hJ
        go_wp2_with fail
        refine KL.out.mono ?_
        rintro e w2 ⟨rfl, ht2⟩
        have HT := Lib.hid ht2
        clear ht2
        go_wp2_with fail
        go_end0
        exact ⟨rfl, L', HP.out, HD.out, HK.out, HT.out⟩
theorem down_still {lt : OrdV → OrdV → Bool} {L L' : Ords} {n i0 i : Nat} (h : DownOk lt L' n i0 i) (hd : ∀ k, 0 < k → k < n → (k - 1) / 2 = i → Edge lt L' k) (hi : i = i0) (hs : i = i0 → L' = L) : L' = L ∧ UpOk lt L' n i0 := by
  subst hi
  exact ⟨hs rfl, h.still hd⟩
set_option maxRecDepth 100000 in
set_option maxHeartbeats 8000000 in
theorem heap_down (i0 n : Nat) (h : Turns F0 w0 w (H.Hp p up L)) (hl : L.length ≤ 1000000) (hn : n ≤ L.length) (hi0 : i0 ≤ 1000000) (hd : DownOk (aheadO up) L n i0 i0) :
    Calls Try.prog 39 #[.iface 56 (.pointer (some p)), .int .i64 i0, .int .i64 n] w fun e w' => ∃ b L', e = .returned (.bool b) ∧ L'.Perm L ∧ (∀ k, n ≤ k → atL L' k = atL L k) ∧
      (b = true → HeapTo (aheadO up) L' n) ∧ (b = false → L' = L ∧ UpOk (aheadO up) L' n i0) ∧ Turns F0 w0 w' (H.Hp p up L') := by
  have H0 := Lib.hid h
  have HD0 := Lib.hid hd
  clear h hd
  obtain ⟨I0, hI0⟩ : ∃ I0 : Int, (i0 : Int) = I0 := ⟨_, rfl⟩
  obtain ⟨N, hN⟩ : ∃ N : Int, (n : Int) = N := ⟨_, rfl⟩
  rw [hI0, hN]
  have HI0 := Lib.hid hI0; have HN := Lib.hid hN
  go_enter Try.func39, Try.ntmps39
  go_wp2_with fail
  go_loopw [7] (fun iv wr => ∃ (i : Nat) (L' : Ords), iv = .int .i64 i ∧ i0 ≤ i ∧ (i < n ∨ i = i0) ∧ (i = i0 → L' = L) ∧ L'.Perm L ∧ DownOk (aheadO up) L' n i0 i ∧ (∀ k, n ≤ k → atL L' k = atL L k) ∧ Turns F0 w0 wr (H.Hp p up L')) (fun iv _ => n - (intOf iv).toNat)
  case atStart => exact ⟨i0, L, by rw [hI0], Nat.le_refl _, Or.inr rfl, fun _ => rfl, .refl _, HD0.out, fun _ _ => rfl, H0.out⟩
  case round =>
    obtain ⟨i, L', rfl, hii, hin, hsame, hp, hd, hk, ht⟩ := hrel
    have hl' : L'.length = L.length := hp.length_eq
    have hnl : n ≤ L'.length := by omega
    have HLN := Lib.hid (show L'.length ≤ 1000000 by omega)
    have hi6 : i ≤ 1000000 := by omega
    obtain ⟨I, hI⟩ : ∃ I : Int, (i : Int) = I := ⟨_, rfl⟩
    obtain ⟨b, hb⟩ : ∃ b, decide (I0 < I) = b := ⟨_, rfl⟩
    have HBT := Lib.hid (show b = true → i ≠ i0 from fun e => by rw [e] at hb; have := of_decide_eq_true hb; omega)
    have HBF := Lib.hid (show b = false → i = i0 from fun e => by rw [e] at hb; have := of_decide_eq_false hb; omega)
    have HI := Lib.hid hI; have HII := Lib.hid hii; have HSAME := Lib.hid hsame; have HP := Lib.hid hp; have HD := Lib.hid hd; have HK := Lib.hid hk
    have a1 : IntKind.i64.wrap (2 * I) = 2 * I := IntWalk.i64_in _ (by omega)
    have a2 : IntKind.i64.wrap (2 * I + 1) = 2 * I + 1 := IntWalk.i64_in _ (by omega)
    have a3 : IntKind.i64.wrap (2 * I + 1 + 1) = 2 * I + 1 + 1 := IntWalk.i64_in _ (by omega)
    have a4 : IntKind.i64.wrap (2 * I + 2) = 2 * I + 2 := IntWalk.i64_in _ (by omega)
    have ml := m_less p
    have ms := m_swap p
    rw [hI]
    by_cases h1 : n ≤ 2 * i + 1
    · have b1 : decide (2 * I + 1 ≥ N) = true := decide_eq_true (by omega)
      have b2 : decide (N ≤ 2 * I + 1) = true := decide_eq_true (by omega)
      have HT := Lib.hid ht
      have HED := Lib.hid (show ∀ k, 0 < k → k < n → (k - 1) / 2 = i → Edge (aheadO up) L' k from fun k k0 kn kp => by exfalso; omega)
      clear ht hl' hnl hi6 hI hii hin hsame hp hd hk h1 hI0 hN
      go_wp2_with fail
      go_ret
      exact ⟨b, L', rfl, HP.out, HK.out, fun hbt => HD.out.heap HED.out (Or.inl (HBT.out hbt)), fun hbf => down_still HD.out HED.out (HBF.out hbf) HSAME.out, HT.out⟩
    · have b1 : decide (2 * I + 1 ≥ N) = false := decide_eq_false (by omega)
      have b2 : decide (N ≤ 2 * I + 1) = false := decide_eq_false (by omega)
      have b3 : decide (2 * I + 1 < 0) = false := decide_eq_false (by omega)
      by_cases h2 : 2 * i + 2 < n
      · have b4 : decide (2 * I + 2 < N) = true := decide_eq_true (by omega)
        have b5 : decide (2 * I + 1 + 1 < N) = true := decide_eq_true (by omega)
        have h1l : 2 * i + 1 < L'.length := by omega
        have h2l : 2 * i + 2 < L'.length := by omega
        have K1 := Turns.hless H ht (2 * i + 2) (2 * i + 1) HLN.out h2l h1l
        have c1 : ((2 * i + 1 : Nat) : Int) = 2 * I + 1 := by omega
        have c2 : ((2 * i + 2 : Nat) : Int) = 2 * I + 1 + 1 := by omega
        rw [c1, c2] at K1
        by_cases hb1 : aheadO up (atL L' (2 * i + 2)) (atL L' (2 * i + 1)) = true
        · rw [hb1] at K1
          obtain ⟨j, hjj⟩ : ∃ j, 2 * i + 2 = j := ⟨_, rfl⟩
          have hJ : (j : Int) = 2 * I + 1 + 1 := by omega
          have hjp : (j - 1) / 2 = i := by omega
          have hj0 : 0 < j := by omega
          have hjn : j < n := by omega
          have hleast : ∀ k, 0 < k → k < n → (k - 1) / 2 = i → aheadO up (atL L' k) (atL L' j) = false := fun k k0 kn kp => by
            rcases Nat.lt_or_ge k (2 * i + 2) with h | h
            · rw [show k = 2 * i + 1 by omega, ← hjj]; exact (ahead_ord up).asym hb1
            · rw [show k = j by omega]; exact (ahead_ord up).refl _
          obtain ⟨J, hJ2⟩ : ∃ J, 2 * I + 1 + 1 = J := ⟨_, rfl⟩
          have K1 := Lib.hid K1
          have HJJ := Lib.hid hjj; have HJ2 := Lib.hid hJ2
          have G := Lib.hid (show (j : Int) = J ∧ n ≤ L'.length ∧ (j - 1) / 2 = i ∧ 0 < j ∧ j < n ∧ ∀ k, 0 < k → k < n → (k - 1) / 2 = i → aheadO up (atL L' k) (atL L' j) = false from ⟨by omega, hnl, hjp, hj0, hjn, hleast⟩)
          rw [hJ2] at K1 a3 b5
          clear ht hl' hnl hi6 hI hii hin hsame hp hd hk h1 h2 hI0 hN h1l h2l c1 c2 hb1 hJ hjp hj0 hjn hleast hjj
          go_wp2_with fail
          refine K1.out.mono ?_
          rintro e w2 ⟨rfl, ht2⟩
          obtain ⟨hJ, hnl, hjp, hj0, hjn, hleast⟩ := G.out
          have hil : i < L'.length := by omega
          have hjl : j < L'.length := by omega
          have KL := Turns.hless H ht2 j i HLN.out hjl hil
          by_cases hb2 : aheadO up (atL L' j) (atL L' i) = true
          · have hds := DownOk.step HD.out (ahead_ord up) hnl HII.out hjp hj0 hjn hleast hb2
            have hk2 : ∀ k, n ≤ k → atL (swapL L' i j) k = atL L k := fun k h => by rw [swapL_at hil hjl, if_neg (by omega), if_neg (by omega)]; exact HK.out k h
            have hp2 := (swapL_perm hil hjl).trans HP.out
            have KS := fun (w3 : World) (ht3 : Turns F0 w0 w3 (H.Hp p up L')) => Turns.hswap H ht3 i j HLN.out hil hjl
            rw [hb2] at KL
            rw [hJ, HI.out] at KL
            rw [hJ, HI.out] at KS
            have KL := Lib.hid KL; have KS := Lib.hid KS; have HDS := Lib.hid hds; have HK2 := Lib.hid hk2; have HP2 := Lib.hid hp2
            have HJ := Lib.hid hJ; have HX := Lib.hid (show i0 ≤ j ∧ j < n ∧ ¬ j = i0 by have := HII.out; omega)
            have HR := Lib.hid (show (n - (intOf (.int .i64 J)).toNat) < (n - (intOf (.int .i64 I)).toNat) by have := HI.out; simp [intOf]; omega)
            clear hds hk2 hp2 hb2 hil hjl hj0 hjn hjp hleast ht2 hnl hJ
            go_wp2_with fail
            refine KL.out.mono ?_
            rintro e w3 ⟨rfl, ht3⟩
            have KS := Lib.hid (KS.out w3 ht3)
            clear ht3
            go_wp2_with fail
            refine KS.out.mono ?_
            rintro e w4 ⟨rfl, ht4⟩
            have HT := Lib.hid ht4
            clear ht4
            go_wp2_with fail
            go_roundw
            case rel => exact ⟨j, _, by rw [HJ.out], HX.out.1, Or.inl HX.out.2.1, fun h => absurd h HX.out.2.2, HP2.out, HDS.out, HK2.out, HT.out⟩
            case measure => exact HR.out
          · have hbf : aheadO up (atL L' j) (atL L' i) = false := by simpa using hb2
            have hed : ∀ k, 0 < k → k < n → (k - 1) / 2 = i → Edge (aheadO up) L' k := fun k k0 kn kp => by
              unfold Edge
              rw [kp]
              exact (ahead_ord up).trans hbf (hleast k k0 kn kp)
            have HED := Lib.hid hed
            rw [hbf] at KL
            rw [hJ, HI.out] at KL
            have KL := Lib.hid KL
            clear hed hbf hb2 hil hjl hj0 hjn hjp hleast ht2 hnl hJ
            go_wp2_with fail
            refine KL.out.mono ?_
            rintro e w3 ⟨rfl, ht3⟩
            have HT := Lib.hid ht3
            clear ht3
            go_wp2_with fail
            go_ret
            exact ⟨b, L', rfl, HP.out, HK.out, fun hbt => HD.out.heap HED.out (Or.inl (HBT.out hbt)), fun hbf => down_still HD.out HED.out (HBF.out hbf) HSAME.out, HT.out⟩
        · have hbf1 : aheadO up (atL L' (2 * i + 2)) (atL L' (2 * i + 1)) = false := by simpa using hb1
          rw [hbf1] at K1
          obtain ⟨j, hjj⟩ : ∃ j, 2 * i + 1 = j := ⟨_, rfl⟩
          have hleast : ∀ k, 0 < k → k < n → (k - 1) / 2 = i → aheadO up (atL L' k) (atL L' j) = false := fun k k0 kn kp => by
            rcases Nat.lt_or_ge k (2 * i + 2) with h | h
            · rw [show k = j by omega]; exact (ahead_ord up).refl _
            · rw [show k = 2 * i + 2 by omega, ← hjj]; exact hbf1
          have G := Lib.hid (show (j : Int) = 2 * I + 1 ∧ n ≤ L'.length ∧ (j - 1) / 2 = i ∧ 0 < j ∧ j < n ∧ ∀ k, 0 < k → k < n → (k - 1) / 2 = i → aheadO up (atL L' k) (atL L' j) = false from ⟨by omega, hnl, by omega, by omega, by omega, hleast⟩)
          have K1 := Lib.hid K1
          clear ht hl' hnl hi6 hI hii hin hsame hp hd hk h1 h2 hI0 hN h1l h2l c1 c2 hb1 hbf1 hleast hjj
          go_wp2_with fail
          refine K1.out.mono ?_
          rintro e w2 ⟨rfl, ht2⟩
          obtain ⟨hJ, hnl, hjp, hj0, hjn, hleast⟩ := G.out
          have hil : i < L'.length := by omega
          have hjl : j < L'.length := by omega
          have KL := Turns.hless H ht2 j i HLN.out hjl hil
          by_cases hb2 : aheadO up (atL L' j) (atL L' i) = true
          · have hds := DownOk.step HD.out (ahead_ord up) hnl HII.out hjp hj0 hjn hleast hb2
            have hk2 : ∀ k, n ≤ k → atL (swapL L' i j) k = atL L k := fun k h => by rw [swapL_at hil hjl, if_neg (by omega), if_neg (by omega)]; exact HK.out k h
            have hp2 := (swapL_perm hil hjl).trans HP.out
            have KS := fun (w3 : World) (ht3 : Turns F0 w0 w3 (H.Hp p up L')) => Turns.hswap H ht3 i j HLN.out hil hjl
            rw [hb2] at KL
            rw [hJ, HI.out] at KL
            rw [hJ, HI.out] at KS
            have KL := Lib.hid KL; have KS := Lib.hid KS; have HDS := Lib.hid hds; have HK2 := Lib.hid hk2; have HP2 := Lib.hid hp2
            have HJ := Lib.hid hJ; have HX := Lib.hid (show i0 ≤ j ∧ j < n ∧ ¬ j = i0 by have := HII.out; omega)
            have HR := Lib.hid (show (n - (intOf (.int .i64 (2 * I + 1))).toNat) < (n - (intOf (.int .i64 I)).toNat) by have := HI.out; simp [intOf]; omega)
            clear hds hk2 hp2 hb2 hil hjl hj0 hjn hjp hleast ht2 hnl hJ
            go_wp2_with fail
            refine KL.out.mono ?_
            rintro e w3 ⟨rfl, ht3⟩
            have KS := Lib.hid (KS.out w3 ht3)
            clear ht3
            go_wp2_with fail
            refine KS.out.mono ?_
            rintro e w4 ⟨rfl, ht4⟩
            have HT := Lib.hid ht4
            clear ht4
            go_wp2_with fail
            go_roundw
            case rel => exact ⟨j, _, by rw [HJ.out], HX.out.1, Or.inl HX.out.2.1, fun h => absurd h HX.out.2.2, HP2.out, HDS.out, HK2.out, HT.out⟩
            case measure => exact HR.out
          · have hbf : aheadO up (atL L' j) (atL L' i) = false := by simpa using hb2
            have hed : ∀ k, 0 < k → k < n → (k - 1) / 2 = i → Edge (aheadO up) L' k := fun k k0 kn kp => by
              unfold Edge
              rw [kp]
              exact (ahead_ord up).trans hbf (hleast k k0 kn kp)
            have HED := Lib.hid hed
            rw [hbf] at KL
            rw [hJ, HI.out] at KL
            have KL := Lib.hid KL
            clear hed hbf hb2 hil hjl hj0 hjn hjp hleast ht2 hnl hJ
            go_wp2_with fail
            refine KL.out.mono ?_
            rintro e w3 ⟨rfl, ht3⟩
            have HT := Lib.hid ht3
            clear ht3
            go_wp2_with fail
            go_ret
            exact ⟨b, L', rfl, HP.out, HK.out, fun hbt => HD.out.heap HED.out (Or.inl (HBT.out hbt)), fun hbf => down_still HD.out HED.out (HBF.out hbf) HSAME.out, HT.out⟩
      · have b4 : decide (2 * I + 2 < N) = false := decide_eq_false (by omega)
        have b5 : decide (2 * I + 1 + 1 < N) = false := decide_eq_false (by omega)
        obtain ⟨j, hjj⟩ : ∃ j, 2 * i + 1 = j := ⟨_, rfl⟩
        have hleast : ∀ k, 0 < k → k < n → (k - 1) / 2 = i → aheadO up (atL L' k) (atL L' j) = false := fun k k0 kn kp => by
          rw [show k = j by omega]; exact (ahead_ord up).refl _
        have G := Lib.hid (show (j : Int) = 2 * I + 1 ∧ n ≤ L'.length ∧ (j - 1) / 2 = i ∧ 0 < j ∧ j < n ∧ ∀ k, 0 < k → k < n → (k - 1) / 2 = i → aheadO up (atL L' k) (atL L' j) = false from ⟨by omega, hnl, by omega, by omega, by omega, hleast⟩)
        have ht2 := ht
        clear ht hl' hnl hi6 hI hii hin hsame hp hd hk h1 h2 hI0 hN hleast hjj
        obtain ⟨hJ, hnl, hjp, hj0, hjn, hleast⟩ := G.out
        have hil : i < L'.length := by omega
        have hjl : j < L'.length := by omega
        have KL := Turns.hless H ht2 j i HLN.out hjl hil
        by_cases hb2 : aheadO up (atL L' j) (atL L' i) = true
        · have hds := DownOk.step HD.out (ahead_ord up) hnl HII.out hjp hj0 hjn hleast hb2
          have hk2 : ∀ k, n ≤ k → atL (swapL L' i j) k = atL L k := fun k h => by rw [swapL_at hil hjl, if_neg (by omega), if_neg (by omega)]; exact HK.out k h
          have hp2 := (swapL_perm hil hjl).trans HP.out
          have KS := fun (w3 : World) (ht3 : Turns F0 w0 w3 (H.Hp p up L')) => Turns.hswap H ht3 i j HLN.out hil hjl
          rw [hb2] at KL
          rw [hJ, HI.out] at KL
          rw [hJ, HI.out] at KS
          have KL := Lib.hid KL; have KS := Lib.hid KS; have HDS := Lib.hid hds; have HK2 := Lib.hid hk2; have HP2 := Lib.hid hp2
          have HJ := Lib.hid hJ; have HX := Lib.hid (show i0 ≤ j ∧ j < n ∧ ¬ j = i0 by have := HII.out; omega)
          have HR := Lib.hid (show (n - (intOf (.int .i64 (2 * I + 1))).toNat) < (n - (intOf (.int .i64 I)).toNat) by have := HI.out; simp [intOf]; omega)
          clear hds hk2 hp2 hb2 hil hjl hj0 hjn hjp hleast ht2 hnl hJ
          go_wp2_with fail
          refine KL.out.mono ?_
          rintro e w3 ⟨rfl, ht3⟩
          have KS := Lib.hid (KS.out w3 ht3)
          clear ht3
          go_wp2_with fail
          refine KS.out.mono ?_
          rintro e w4 ⟨rfl, ht4⟩
          have HT := Lib.hid ht4
          clear ht4
          go_wp2_with fail
          go_roundw
          case rel => exact ⟨j, _, by rw [HJ.out], HX.out.1, Or.inl HX.out.2.1, fun h => absurd h HX.out.2.2, HP2.out, HDS.out, HK2.out, HT.out⟩
          case measure => exact HR.out
        · have hbf : aheadO up (atL L' j) (atL L' i) = false := by simpa using hb2
          have hed : ∀ k, 0 < k → k < n → (k - 1) / 2 = i → Edge (aheadO up) L' k := fun k k0 kn kp => by
            unfold Edge
            rw [kp]
            exact (ahead_ord up).trans hbf (hleast k k0 kn kp)
          have HED := Lib.hid hed
          rw [hbf] at KL
          rw [hJ, HI.out] at KL
          have KL := Lib.hid KL
          clear hed hbf hb2 hil hjl hj0 hjn hjp hleast ht2 hnl hJ
          go_wp2_with fail
          refine KL.out.mono ?_
          rintro e w3 ⟨rfl, ht3⟩
          have HT := Lib.hid ht3
          clear ht3
          go_wp2_with fail
          go_ret
          exact ⟨b, L', rfl, HP.out, HK.out, fun hbt => HD.out.heap HED.out (Or.inl (HBT.out hbt)), fun hbf => down_still HD.out HED.out (HBF.out hbf) HSAME.out, HT.out⟩
end
end Go.Proofs.Ytkbebllkjmccoaa
