/- WireLong answers true, and makes only new memory. Conditions: wire's calls are as their contracts say; the row of parts lies in memory. -/
import Derived.Test.YtcnnfmooigfeiaaWireAwake
import Derived.LoopTactic
import Derived.Deep.DeepCutAuto
import Derived.Laws.BitsLemmas
namespace Go.Proofs.Ytcnnfmooigfeiaa
open Go.RowKit Go.WideShapes

/-- A part that came in: its kind, its number, its text. -/
structure PartV where
  kind : Int
  n : Int
  A : Option Addr
  cap : Nat
  t : List UInt8
/-- Such a part is sound. -/
def PartV.ok (w : World) (p : PartV) : Prop :=
  -9223372036854775808 ≤ p.kind ∧ p.kind < 9223372036854775808 ∧ Word p.n ∧ p.t.length ≤ p.cap ∧ p.cap ≤ 9223372036854775807 ∧ (p.A = none → p.cap = 0) ∧ Lie8 w (fun _ => False) p.A p.t
/-- The parts lie in memory, three cells each. -/
def PartsAt (w : World) (A : Option Addr) (ps : List PartV) : Prop :=
  ps = [] ∨ ∃ b off : Nat, A = some ⟨b, off, none⟩ ∧ b < w.heap.size ∧ ∀ i (h : i < ps.length),
    w.cell? ⟨b, off + i * 3, none⟩ = some (.int .i64 ps[i].kind) ∧ w.cell? ⟨b, off + i * 3 + 1, none⟩ = some (.int .u64 ps[i].n) ∧ w.cell? ⟨b, off + i * 3 + 2, none⟩ = some (.slice ps[i].A ps[i].t.length ps[i].cap) ∧ ps[i].ok w

theorem mask3 (n : Int) : bits .and .i64 n 3 = n % 4 := by
  have h3 : (BitVec.ofInt 64 3).toNat = 2 ^ 2 - 1 := by decide
  have key : (BitVec.ofInt 64 n &&& BitVec.ofInt 64 3).toNat = (n % ((2 ^ 64 : Nat) : Int)).toNat % 2 ^ 2 := by
    rw [BitVec.toNat_and, BitVec.toNat_ofInt, h3, Nat.and_two_pow_sub_one_eq_mod]
  show IntKind.i64.wrap ((BitVec.ofInt 64 n &&& BitVec.ofInt 64 3).toNat : Nat) = n % 4
  rw [key, IntKind.wrap_i64]
  omega

theorem long_empty (A : WireApi) (a : Option Addr) (cap : Nat) (w : World) :
    Calls Try.prog 5 #[.slice a 0 cap] w fun e w' => e = .returned (.bool true) ∧ Below w.heap.size w w' := by
  go_enter Try.func5, Try.ntmps5
  go_wp2_with fail
  refine (st_new A w w (Below.refl _ _)).mono ?_
  rintro e w1 ⟨p, rfl, h1⟩
  go_wp2_with fail
  refine wp_loop_rounds 1 ?_
  rw [rounds_succ]
  go_wp2_with (go_at_call 8; refine (awake_any A _).mono ?_; rintro e w' ⟨rfl, hb⟩)
  go_ret
  exact ⟨rfl, h1.below.trans (hb.mono h1.below.size)⟩

set_option maxRecDepth 100000 in
set_option maxHeartbeats 4000000 in
theorem long_some (A : WireApi) (b off cap : Nat) (ps : List PartV) (w : World) (hlen : ps.length ≤ 9223372036854775807) (hb : b < w.heap.size)
    (hp : ∀ i (h : i < ps.length), w.cell? ⟨b, off + i * 3, none⟩ = some (.int .i64 ps[i].kind) ∧ w.cell? ⟨b, off + i * 3 + 1, none⟩ = some (.int .u64 ps[i].n) ∧ w.cell? ⟨b, off + i * 3 + 2, none⟩ = some (.slice ps[i].A ps[i].t.length ps[i].cap) ∧ ps[i].ok w) :
    Calls Try.prog 5 #[.slice (some ⟨b, off, none⟩) ps.length cap] w fun e w' => e = .returned (.bool true) ∧ Below w.heap.size w w' := by
  have HP := Lib.hid hp; clear hp
  go_enter Try.func5, Try.ntmps5
  go_wp2_with fail
  refine (st_new A w w (Below.refl _ _)).mono ?_
  rintro e w1 ⟨p, rfl, h1⟩
  go_wp2_with fail
  go_loopw [4, 5] (fun sn i wr => ∃ (k : Nat) (l : List UInt8), k ≤ ps.length ∧ k ≤ 20 ∧ l.length ≤ k * 208 ∧ i = .int .i64 k ∧ sn = .int .i64 l.length ∧ WSt A w wr (.pointer (some p)) l) (fun _ i _ => 20 - (intOf i).toNat)
  case atStart => exact ⟨0, [], by omega, by omega, by simp, rfl, rfl, h1⟩
  case round =>
    obtain ⟨k, l, hk, hk20, hl, rfl, rfl, hst⟩ := hrel
    by_cases hkn : k < ps.length
    · by_cases hk2 : k < 20
      · obtain ⟨c0, c1, c2, hok⟩ := HP.out k hkn
        obtain ⟨b0, b1, hw, hcap, hmax, hnil, hlie⟩ := hok
        generalize ps[k] = pt at c0 c1 c2 b0 b1 hw hcap hmax hnil hlie
        obtain ⟨kind, n, pA, pcap, t⟩ := pt
        simp only at c0 c1 c2 b0 b1 hw hcap hmax hnil hlie
        have hbl := hst.below
        have d0 := (hbl.cell (p := ⟨b, off + k * 3, none⟩) hb).trans c0
        have d1 := (hbl.cell (p := ⟨b, off + k * 3 + 1, none⟩) hb).trans c1
        have d2 := (hbl.cell (p := ⟨b, off + k * 3 + 2, none⟩) hb).trans c2
        have C2 := Lib.hid c2
        clear c0 c1 c2
        go_wp2_with fail
        · refine (awake_any A _).mono ?_
          rintro e w2 ⟨rfl, hb2⟩
          go_wp2
          go_ret
          exact ⟨rfl, hbl.trans (hb2.mono hbl.size)⟩
        · refine (hst.num n hw (by omega)).mono ?_
          rintro e w2 ⟨rfl, h2⟩
          have e8 : (l ++ num8 n).length = l.length + 8 := by rw [List.length_append, num8_length]
          have H8 := Lib.hid e8
          generalize l ++ num8 n = l2 at h2 H8
          clear e8 d0 d1 d2
          go_wp2_with fail
          refine (h2.bytes (by rw [H8.out]; omega)).mono ?_
          rintro e w3 ⟨x, rfl, hx, h3⟩
          obtain ⟨a1, cap1, rfl, _, _, _, _⟩ := lie8_own (F := fun _ => False) hx.1 (fun _ _ h => h)
          rw [H8.out]
          clear hx
          go_wp2_with fail
          go_roundw
          case rel => exact ⟨k + 1, l2, by omega, by omega, by rw [H8.out]; omega, by go_num, by rw [H8.out]; go_num, h3⟩
          case measure => simp [intOf]; omega
        · refine (hst.int (wrap64 n) (by omega)).mono ?_
          rintro e w2 ⟨rfl, h2⟩
          have e8 : (l ++ num8 (asU (wrap64 n))).length = l.length + 8 := by rw [List.length_append, num8_length]
          have H8 := Lib.hid e8
          generalize l ++ num8 (asU (wrap64 n)) = l2 at h2 H8
          clear e8 d0 d1 d2
          go_wp2_with fail
          refine (h2.bytes (by rw [H8.out]; omega)).mono ?_
          rintro e w3 ⟨x, rfl, hx, h3⟩
          obtain ⟨a1, cap1, rfl, _, _, _, _⟩ := lie8_own (F := fun _ => False) hx.1 (fun _ _ h => h)
          rw [H8.out]
          clear hx
          go_wp2_with fail
          go_roundw
          case rel => exact ⟨k + 1, l2, by omega, by omega, by rw [H8.out]; omega, by go_num, by rw [H8.out]; go_num, h3⟩
          case measure => simp [intOf]; omega
        · refine (hst.text_old pA t.length pcap t (by omega) rfl (by omega) hcap hnil hlie).mono ?_
          rintro e w2 ⟨rfl, h2⟩
          have e8 : (l ++ text8 t).length = l.length + 8 + t.length := by unfold text8; rw [List.length_append, List.length_append, num8_length]; omega
          have H8 := Lib.hid e8
          generalize l ++ text8 t = l2 at h2 H8
          clear e8 d0 d1 d2
          have d2 := (h2.below.cell (p := ⟨b, off + k * 3 + 2, none⟩) hb).trans C2.out
          go_wp2_with fail
          refine (h2.bytes (by rw [H8.out]; omega)).mono ?_
          rintro e w3 ⟨x, rfl, hx, h3⟩
          obtain ⟨a1, cap1, rfl, _, _, _, _⟩ := lie8_own (F := fun _ => False) hx.1 (fun _ _ h => h)
          rw [H8.out]
          clear hx
          go_wp2_with fail
          go_roundw
          case rel => exact ⟨k + 1, l2, by omega, by omega, by rw [H8.out]; omega, by go_num, by rw [H8.out]; go_num, h3⟩
          case measure => simp [intOf]; omega
      · have hk3 : k = 20 := by omega
        subst hk3
        go_wp2_with (go_at_call 8; refine (awake_any A _).mono ?_; rintro e w2 ⟨rfl, hb2⟩)
        go_ret
        exact ⟨rfl, hst.below.trans (hb2.mono hst.below.size)⟩
    · have hk3 : k = ps.length := by omega
      subst hk3
      go_wp2_with (go_at_call 8; refine (awake_any A _).mono ?_; rintro e w2 ⟨rfl, hb2⟩)
      go_ret
      exact ⟨rfl, hst.below.trans (hb2.mono hst.below.size)⟩
end Go.Proofs.Ytcnnfmooigfeiaa
