/- container/heap's Push, Pop and Remove over what stands in a row. Conditions: the five methods keep their contracts; at most a million things. -/
import Derived.Test.YtkbebllkjmccoaaHeapCalls
namespace Go.Proofs.Ytkbebllkjmccoaa
open Go.RowKit Go.WideShapes

theorem last_split {L : Ords} {m : Nat} (h : L.length = m + 1) : L = L.take m ++ [atL L m] := by
  conv => lhs; rw [← List.take_append_drop m L]
  rw [List.drop_eq_getElem_cons (by omega), List.drop_of_length_le (by omega), atL_eq (by omega)]
section
variable {F0 : Nat → Prop} {w0 w : World} {p : Addr} {up : Bool} {L : Ords} {R : HP} (H : HeapIf)
set_option maxRecDepth 100000 in
set_option maxHeartbeats 4000000 in
theorem heap_push (o : OrdV) (h : Turns F0 w0 w (H.Hp p up L)) (hl : L.length ≤ 900000) (ho : o.ok) (hh : HeapTo (aheadO up) L L.length) :
    Calls Try.prog 22 #[.iface 56 (.pointer (some p)), .iface 28 o.val] w fun e w' => e = .returned (.tuple #[]) ∧ ∃ L', L'.Perm (o :: L) ∧ HeapTo (aheadO up) L' L'.length ∧ Turns F0 w0 w' (H.Hp p up L') := by
  have K1 := Lib.hid (Turns.hpush H h o (by omega) ho)
  have hu := HeapTo.push hh o
  have hlen : (L ++ [o]).length = L.length + 1 := by simp
  have ml := m_len p
  have mp := m_push p
  have K2 := Lib.hid (fun (w2 : World) (ht : Turns F0 w0 w2 (H.Hp p up (L ++ [o]))) => Turns.hlen H ht (by omega))
  have K3 := Lib.hid (fun (w2 : World) (ht : Turns F0 w0 w2 (H.Hp p up (L ++ [o]))) => heap_up H L.length (L.length + 1) ht (by omega) (by omega) (by omega) hu)
  obtain ⟨N, hN⟩ : ∃ N : Int, (L.length : Int) = N := ⟨_, rfl⟩
  have a1 : IntKind.i64.wrap (N + 1 - 1) = N := by rw [show N + 1 - 1 = N by omega]; exact IntWalk.i64_in _ (by omega)
  have a2 : IntKind.i64.wrap N = N := IntWalk.i64_in _ (by omega)
  have a3 : N + 1 - 1 = N := by omega
  have HN := Lib.hid hN
  have HL := Lib.hid hlen
  clear h hl ho hh hu hlen
  obtain ⟨ov, hov⟩ : ∃ ov, o.val = ov := ⟨_, rfl⟩
  rw [hov] at K1 ⊢
  clear hov
  go_enter Try.func22, Try.ntmps22
  go_wp2_with fail
  refine K1.out.mono ?_
  rintro e w2 ⟨rfl, ht⟩
  have K2 := K2.out w2 ht
  rw [HL.out, show ((L.length + 1 : Nat) : Int) = N + 1 by rw [← HN.out]; rfl] at K2
  have K2 := Lib.hid K2
  clear ht
  go_wp2_with fail
  refine K2.out.mono ?_
  rintro e w3 ⟨rfl, ht⟩
  have K3 := K3.out w3 ht
  rw [HN.out] at K3
  have K3 := Lib.hid K3
  clear ht
  go_wp2_with fail
  refine K3.out.mono ?_
  rintro e w4 ⟨rfl, L', hp, hh, _, ht⟩
  have HP := Lib.hid hp; have HH := Lib.hid hh; have HT := Lib.hid ht
  clear hp hh ht
  go_wp2_with fail
  go_end0
  have hp := HP.out
  have hl := hp.length_eq
  exact ⟨rfl, L', hp.trans (List.perm_append_singleton o L), by rw [hl, HL.out]; exact HH.out, HT.out⟩

theorem heap_last {m : Nat} (x : OrdV) (hm : L.length = m + 1) (hl : L.length ≤ 900000) (hx : atL L m = x) (h : Turns F0 w0 w (H.Hp p up L)) :
    Calls Try.prog 63 #[.pointer (some p)] w fun e w' => e = .returned (.iface 28 x.val) ∧ Turns F0 w0 w' (H.Hp p up (L.take m)) := by
  have e := last_split hm
  rw [hx] at e
  rw [e] at h
  have K := Turns.hpop H x h (by rw [List.length_take]; omega)
  exact K
theorem perm_last {L L' : Ords} {m : Nat} {x : OrdV} (hm : L'.length = m + 1) (hx : atL L' m = x) (hp : L'.Perm L) : (x :: L'.take m).Perm L := by
  have e := last_split hm
  rw [hx] at e
  have := (List.perm_append_singleton x (L'.take m)).symm
  rw [← e] at this
  exact this.trans hp
set_option maxRecDepth 100000 in
set_option maxHeartbeats 4000000 in
theorem heap_remove (i : Nat) (h : Turns F0 w0 w (H.Hp p up L)) (hl : L.length ≤ 900000) (hi : i < L.length) (hh : HeapTo (aheadO up) L L.length) :
    Calls Try.prog 32 #[.iface 56 (.pointer (some p)), .int .i64 i] w fun e w' => e = .returned (.iface 28 (atL L i).val) ∧ ∃ L', (atL L i :: L').Perm L ∧ HeapTo (aheadO up) L' L'.length ∧ Turns F0 w0 w' (H.Hp p up L') := by
  obtain ⟨m, hm⟩ : ∃ m, L.length = m + 1 := ⟨L.length - 1, by omega⟩
  have K1 := Turns.hlen H h (by omega)
  have ml := m_len p
  have ms := m_swap p
  have mp := m_pop p
  obtain ⟨M, hM⟩ : ∃ M : Int, (m : Int) = M := ⟨_, rfl⟩
  obtain ⟨I, hI⟩ : ∃ I : Int, (i : Int) = I := ⟨_, rfl⟩
  rw [hm, show ((m + 1 : Nat) : Int) = M + 1 by omega] at K1
  have K1 := Lib.hid K1
  have a3 : (M + 1 - 1) = M := by omega
  have a1 : IntKind.i64.wrap (M + 1 - 1) = M := by rw [a3]; exact IntWalk.i64_in _ (by omega)
  have a2 : IntKind.i64.wrap M = M := IntWalk.i64_in _ (by omega)
  have HM := Lib.hid hM; have HI := Lib.hid hI
  rw [hI]
  by_cases him : i = m
  · subst him
    have hMI : I = M := by omega
    have K4 := Lib.hid (fun (w2 : World) (ht : Turns F0 w0 w2 (H.Hp p up L)) => heap_last H (w := w2) (L := L) (m := i) (atL L i) hm hl rfl ht)
    have HP := Lib.hid (perm_last (L := L) (L' := L) (m := i) (x := atL L i) hm rfl (.refl _))
    have HH := Lib.hid (HeapTo.take (n := i) (hh.mono (by omega)))
    clear h hl hh hm hM hI hi
    subst hMI
    have b1 : (I != I) = false := by simp
    obtain ⟨ov, hov⟩ : ∃ ov, (atL L i).val = ov := ⟨_, rfl⟩
    rw [hov] at K4 ⊢
    clear hov
    go_enter Try.func32, Try.ntmps32
    go_wp2_with fail
    refine K1.out.mono ?_
    rintro e w2 ⟨rfl, ht⟩
    have K4 := Lib.hid (K4.out w2 ht)
    clear ht
    go_wp2_with fail
    refine K4.out.mono ?_
    rintro e w5 ⟨rfl, ht⟩
    have HT := Lib.hid ht
    clear ht
    go_wp2_with fail
    go_ret
    exact ⟨rfl, L.take i, HP.out, HH.out, HT.out⟩
  · have him' : i < m := by omega
    have b1 : (M != I) = true := by simp; omega
    have b2 : ¬ M = I := by omega
    have hd := hh.swapped (ahead_ord up) (Nat.le_refl _) hm.symm him'
    have hsl := swapL_length L i m
    have hat : atL (swapL L i m) m = atL L i := by rw [swapL_at (by omega) (by omega), if_pos rfl]
    have hpm := swapL_perm (L := L) (i := i) (j := m) (by omega) (by omega)
    have K2 := Lib.hid (fun (w2 : World) (ht : Turns F0 w0 w2 (H.Hp p up L)) => Turns.hswap H ht i m (by omega) (by omega) (by omega))
    have K3 := Lib.hid (fun (w2 : World) (ht : Turns F0 w0 w2 (H.Hp p up (swapL L i m))) => heap_down H i m ht (by omega) (by omega) (by omega) hd)
    have KU := Lib.hid (fun (w2 : World) (ht : Turns F0 w0 w2 (H.Hp p up (swapL L i m))) (hu : UpOk (aheadO up) (swapL L i m) m i) => heap_up H i m ht (by omega) (by omega) him' hu)
    have K4 := Lib.hid (fun (w2 : World) (L' : Ords) (hp : L'.Perm (swapL L i m)) (hk : ∀ k, m ≤ k → atL L' k = atL (swapL L i m) k) (ht : Turns F0 w0 w2 (H.Hp p up L')) =>
      heap_last H (w := w2) (L := L') (m := m) (atL L i) (by rw [hp.length_eq, hsl, hm]) (by rw [hp.length_eq, hsl]; exact hl) ((hk m (Nat.le_refl _)).trans hat) ht)
    have K5 := Lib.hid (fun (L' : Ords) (hp : L'.Perm (swapL L i m)) (hk : ∀ k, m ≤ k → atL L' k = atL (swapL L i m) k) =>
      perm_last (L := L) (L' := L') (m := m) (x := atL L i) (by rw [hp.length_eq, hsl, hm]) ((hk m (Nat.le_refl _)).trans hat) (hp.trans hpm))
    clear h hl hh hd hsl hat hpm hm hM hI hi him him'
    obtain ⟨ov, hov⟩ : ∃ ov, (atL L i).val = ov := ⟨_, rfl⟩
    rw [hov] at K4 ⊢
    clear hov
    go_enter Try.func32, Try.ntmps32
    go_wp2_with fail
    refine K1.out.mono ?_
    rintro e w2 ⟨rfl, ht⟩
    have K2 := K2.out w2 ht
    rw [HM.out, HI.out] at K2
    have K2 := Lib.hid K2
    clear ht
    go_wp2_with fail
    refine K2.out.mono ?_
    rintro e w3 ⟨rfl, ht⟩
    have K3 := K3.out w3 ht
    rw [HM.out, HI.out] at K3
    have K3 := Lib.hid K3
    clear ht
    go_wp2_with fail
    refine K3.out.mono ?_
    rintro e w4 ⟨b, L', rfl, hp, hk, hT, hF, ht⟩
    cases b
    · obtain ⟨rfl, hu⟩ := hF rfl
      have KU := KU.out w4 ht hu
      rw [HI.out] at KU
      have KU := Lib.hid KU
      clear hp hk hT hF ht hu
      go_wp2_with fail
      refine KU.out.mono ?_
      rintro e w6 ⟨rfl, L'', hp, hheap, hk, ht⟩
      have HH := Lib.hid hheap; have HP := Lib.hid (K5.out L'' hp hk)
      have K5 := Lib.hid (K4.out w6 L'' hp hk ht)
      clear hp hk ht hheap
      go_wp2_with fail
      refine K5.out.mono ?_
      rintro e w5 ⟨rfl, ht⟩
      have HT := Lib.hid ht
      clear ht
      go_wp2_with fail
      go_ret
      exact ⟨rfl, L''.take m, HP.out, HH.out.take, HT.out⟩
    · have HH := Lib.hid (hT rfl); have HP := Lib.hid (K5.out L' hp hk)
      have K5 := Lib.hid (K4.out w4 L' hp hk ht)
      clear hp hk hT hF ht
      go_wp2_with fail
      refine K5.out.mono ?_
      rintro e w5 ⟨rfl, ht⟩
      have HT := Lib.hid ht
      clear ht
      go_wp2_with fail
      go_ret
      exact ⟨rfl, L'.take m, HP.out, HH.out.take, HT.out⟩
end
end Go.Proofs.Ytkbebllkjmccoaa
