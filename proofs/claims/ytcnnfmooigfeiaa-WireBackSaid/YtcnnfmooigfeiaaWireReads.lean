/- WireReads answers true, and makes only new memory. Conditions: wire's calls are as their contracts say; the rows lie in memory. -/
import Derived.Test.YtcnnfmooigfeiaaWireAwake
import Derived.Test.YtcnnfmooigfeiaaWireRef2
import Derived.Deep.DeepCutAuto
namespace Go.Proofs.Ytcnnfmooigfeiaa
open Go.RowKit Go.WideShapes

section
variable {A : WireApi} {w0 w : World} {r : Value} {s s' : Left8} {n : Int} {t : List UInt8}
theorem RSt.rnum_is (h : RSt A w0 w r s) (hn : nextNum s = (n, s')) : Calls Try.prog 20 #[r] w fun e w' => e = .returned (.int .u64 n) ∧ RSt A w0 w' r s' := by
  have := h.rnum; rw [hn] at this; exact this
theorem RSt.rint_is {m : Int} (h : RSt A w0 w r s) (hn : nextNum s = (n, s')) (hm : asI n = m) : Calls Try.prog 21 #[r] w fun e w' => e = .returned (.int .i64 m) ∧ RSt A w0 w' r s' := by
  have := h.rint; rw [hn] at this; subst hm; exact this
theorem RSt.rtext_is (h : RSt A w0 w r s) (hn : nextText s = (t, s')) : Calls Try.prog 17 #[r] w fun e w' =>
    ∃ (a : Option Addr) (cap : Nat), e = .returned (.slice a t.length cap) ∧ (a = none → t.length = 0) ∧ Lie8 w' (fun _ => False) a t ∧ RSt A w0 w' r s' := by
  have := h.rtext; rw [hn] at this
  refine this.mono fun e w' ⟨x, he, hx, h'⟩ => ?_
  obtain ⟨a, cap, rfl, _, hc, hnil, hl⟩ := lie8_own (F := fun _ => False) hx (fun _ _ h => h)
  exact ⟨a, cap, he, fun h => Nat.le_zero.1 (hnil h ▸ hc), hl, h'⟩
theorem RSt.rtext_len {q : Nat} (h : RSt A w0 w r s) (hn : nextText s = (t, s')) (hq : t.length = q) : Calls Try.prog 17 #[r] w fun e w' =>
    ∃ (a : Option Addr) (cap : Nat), e = .returned (.slice a q cap) ∧ (a = none → q = 0) ∧ Lie8 w' (fun _ => False) a t ∧ RSt A w0 w' r s' := by
  subst hq; exact h.rtext_is hn
theorem RSt.done_is {b : Bool} (h : RSt A w0 w r s) (hb : decide (s = some []) = b) : Calls Try.prog 18 #[r] w fun e w' => e = .returned (.bool b) ∧ RSt A w0 w' r s := by
  subst hb; exact h.done
end
theorem mask3r (n : Int) : bits .and .i64 n 3 = n % 4 := by
  have h3 : (BitVec.ofInt 64 3).toNat = 2 ^ 2 - 1 := by decide
  have key : (BitVec.ofInt 64 n &&& BitVec.ofInt 64 3).toNat = (n % ((2 ^ 64 : Nat) : Int)).toNat % 2 ^ 2 := by
    rw [BitVec.toNat_and, BitVec.toNat_ofInt, h3, Nat.and_two_pow_sub_one_eq_mod]
  show IntKind.i64.wrap ((BitVec.ofInt 64 n &&& BitVec.ofInt 64 3).toNat : Nat) = n % 4
  rw [key, IntKind.wrap_i64]
  omega
/-- How the law's place and mark stand to what is left to the reader. -/
def ReadsInv (l : List UInt8) (at_ : Int) (bad : Bool) (s : Left8) (k : Nat) : Prop :=
  0 ≤ at_ ∧ at_ ≤ 500 + 8 * k ∧ ((bad = true ∧ s = none) ∨ (bad = false ∧ at_ ≤ l.length ∧ s = some (l.drop at_.toNat)))

theorem asI_wrap (g : Int) : asI g = wrap64 g := by unfold asI wrap64; rfl
/-- A part of a row lies where it is cut out. -/
theorem lie8_part {w w' : World} {b off i k : Nat} {l : List UInt8} (h : Lie8 w (fun _ => False) (some ⟨b, off, none⟩) l) (hb : Below w.heap.size w w') : Lie8 w' (fun _ => False) (some ⟨b, off + i, none⟩) ((l.drop i).take k) := by
  rcases h.below hb with rfl | ⟨a, ha, hlt, hF, hc⟩
  · exact Or.inl (by simp)
  · obtain rfl := Option.some.inj ha
    refine Or.inr ⟨_, rfl, hlt, hF, fun j hj => ?_⟩
    rw [List.length_take, List.length_drop] at hj
    have := hc (i + j) (by omega)
    rw [add_plain] at this
    rw [add_plain, Nat.add_assoc, this]
    simp
theorem reads_no {l : List UInt8} {m : Nat} {g : Int} (hg : getN l m = g) (ho : getOk l m = false) : g = 0 ∧ nextNum (some (l.drop m)) = (0, none) ∧ nextText (some (l.drop m)) = ([], none) := by
  have h : ¬ (0 ≤ (m : Int) ∧ (m : Int) ≤ (l.length : Int) - 8) := by simpa [getOk] using ho
  have h8 : (l.drop m).length < 8 := by rw [List.length_drop]; omega
  have n1 : nextNum (some (l.drop m)) = (0, none) := by simp only [nextNum, if_pos h8]
  refine ⟨by rw [← hg]; simp only [getN, if_neg h], n1, by simp only [nextText, n1]⟩
theorem reads_yes {l : List UInt8} {m : Nat} {g : Int} (hg : getN l m = g) (ho : getOk l m = true) :
    (m : Int) + 8 ≤ l.length ∧ Word g ∧ nextNum (some (l.drop m)) = (g, some (l.drop (m + 8))) ∧
      ((l.length : Int) - m - 8 < g → nextText (some (l.drop m)) = ([], none)) ∧
      (g ≤ (l.length : Int) - m - 8 → nextText (some (l.drop m)) = ((l.drop (m + 8)).take g.toNat, some (l.drop (m + 8 + g.toNat)))) := by
  have h : 0 ≤ (m : Int) ∧ (m : Int) ≤ (l.length : Int) - 8 := by simpa [getOk] using ho
  have h8 : ¬ (l.drop m).length < 8 := by rw [List.length_drop]; omega
  have eg : g = get8 ((l.drop m).take 8) := by rw [← hg]; simp only [getN, if_pos h, Int.toNat_natCast]
  have n1 : nextNum (some (l.drop m)) = (g, some (l.drop (m + 8))) := by simp only [nextNum, if_neg h8, ← eg, List.drop_drop]
  have hl : ((l.drop (m + 8)).length : Int) = (l.length : Int) - m - 8 := by rw [List.length_drop]; omega
  refine ⟨by omega, by rw [eg]; exact get8_word _ (by rw [List.length_take, List.length_drop]; omega), n1, fun hlt => ?_, fun hle => ?_⟩
  · simp only [nextText, n1]
    rw [if_pos (by omega)]
  · simp only [nextText, n1]
    rw [if_neg (by omega), List.drop_drop]

theorem reads_long (A : WireApi) (a : Option Addr) (n cap : Nat) (ka : Option Addr) (kn kcap : Nat) (hn : 500 < n) (hn2 : n ≤ 9223372036854775807) (w : World) :
    Calls Try.prog 7 #[.slice a n cap, .slice ka kn kcap] w fun e w' => e = .returned (.bool true) ∧ Below w.heap.size w w' := by
  go_enter Try.func7, Try.ntmps7
  go_wp2_with (go_at_call 8; refine (awake_any A _).mono ?_; rintro e w2 ⟨rfl, hb2⟩)
  go_ret
  exact ⟨rfl, hb2⟩
set_option maxRecDepth 100000 in
set_option maxHeartbeats 8000000 in
theorem reads_some (A : WireApi) (a : Option Addr) (cap : Nat) (l : List UInt8) (hl500 : l.length ≤ 500) (hcap : l.length ≤ cap) (hnil : a = none → cap = 0) (ka : Option Addr) (kcap : Nat) (ks : List Int) (w : World)
    (hlie : Lie8 w (fun _ => False) a l) (hkl : ks.length ≤ 9223372036854775807)
    (hks : ks = [] ∨ ∃ b off : Nat, ka = some ⟨b, off, none⟩ ∧ b < w.heap.size ∧ ∀ i (h : i < ks.length), w.cell? ⟨b, off + i, none⟩ = some (.int .i64 ks[i])) :
    Calls Try.prog 7 #[.slice a l.length cap, .slice ka ks.length kcap] w fun e w' => e = .returned (.bool true) ∧ Below w.heap.size w w' := by
  have hl5 : (l.length : Int) ≤ 500 := by omega
  have HLIE := Lib.hid hlie; have HNIL := Lib.hid hnil; have HCAP := Lib.hid hcap
  have HKS := Lib.hid hks
  clear hlie hnil hcap hks
  go_enter Try.func7, Try.ntmps7
  go_wp2_with fail
  refine (RSt.read A (Below.refl _ w) a l.length cap l rfl (by omega) HCAP.out HNIL.out HLIE.out).mono ?_
  rintro e w1 ⟨p, rfl, h1, _⟩
  go_wp2_with fail
  go_loopw [6, 7, 8] (fun sa sb i wr => ∃ (k : Nat) (at_ : Int) (bad : Bool) (s : Left8), k ≤ ks.length ∧ k ≤ 40 ∧ i = .int .i64 k ∧ sa = .int .i64 at_ ∧ sb = .bool bad ∧ RSt A w wr (.pointer (some p)) s ∧ ReadsInv l at_ bad s k) (fun _ _ i _ => 40 - (intOf i).toNat)
  case atStart => exact ⟨0, 0, false, some l, by omega, by omega, rfl, rfl, rfl, h1, by omega, by omega, Or.inr ⟨rfl, by omega, rfl⟩⟩
  case round =>
    obtain ⟨k, at_, bad, s, hk, hk40, rfl, rfl, rfl, hst, ha0, ha1, hinv⟩ := hrel
    by_cases hkn : k < ks.length
    · by_cases hk2 : k < 40
      · obtain ⟨kd, hcell⟩ : ∃ kd : Int, ∃ b off : Nat, ka = some ⟨b, off, none⟩ ∧ b < w.heap.size ∧ w.cell? ⟨b, off + k, none⟩ = some (.int .i64 kd) := by
          rcases HKS.out with h | ⟨b, off, h1, h2, h3⟩
          · rw [h] at hkn; simp at hkn
          · exact ⟨_, b, off, h1, h2, h3 k hkn⟩
        obtain ⟨b, off, rfl, hb, hcell⟩ := hcell
        have hbl := hst.below
        have hlr := HLIE.out.chg (Chg.mono (Chg.of_below (F := fun _ => False) hbl) (fun _ _ h => h)) (fun _ _ h => h)
        have G := rget_any a l.length cap at_ l wr (fun _ => False) rfl (by omega) (by omega) (by omega) hlr
        have d0 := (hbl.cell (p := ⟨b, off + k, none⟩) hb).trans hcell
        have hm3 := mask3r kd
        have hm0 : 0 ≤ kd % 4 := by omega
        have hm4 : kd % 4 < 4 := by omega
        obtain ⟨g, hg⟩ : ∃ g, getN l at_ = g := ⟨_, rfl⟩
        obtain ⟨o, ho⟩ : ∃ o, getOk l at_ = o := ⟨_, rfl⟩
        rw [hg, ho] at G
        have HG := Lib.hid G; have EG := Lib.hid hg; have EO := Lib.hid ho
        clear G hg ho hcell hlr
        rcases hinv with ⟨rfl, rfl⟩ | ⟨rfl, hat, rfl⟩
        · have SM : ∀ (w' : World) (x : Option Addr) (c : Nat), Calls Try.prog 14 #[.slice x 0 c, .slice none 0 0] w' fun e w'' => e = .returned (.bool true) ∧ w' = w'' :=
            fun w' x c => rsame_any x none 0 0 c 0 [] [] w' (fun _ => False) rfl (fun _ => rfl) (Or.inl rfl) rfl (fun _ => rfl) (Or.inl rfl)
          have SM := Lib.hid SM
          go_wp2_with (first
            | (go_at_call 22; refine HG.out.mono ?_; rintro e w2 ⟨rfl, rfl⟩)
            | (go_at_call 17; refine (hst.rtext_is (t := []) (s' := none) rfl).mono ?_; rintro e w2 ⟨x, c, rfl, _, _, h2⟩)
            | (go_at_call 20; refine (hst.rnum_is (n := 0) (s' := none) rfl).mono ?_; rintro e w2 ⟨rfl, h2⟩)
            | (go_at_call 21; refine (hst.rint_is (n := 0) (m := 0) (s' := none) rfl (by decide)).mono ?_; rintro e w2 ⟨rfl, h2⟩)
            | (go_at_call 14; refine (SM.out _ _ _).mono ?_; rintro e w3 ⟨rfl, rfl⟩)
            | (go_at_call 18; refine (h2.done_is (b := false) (by decide)).mono ?_; rintro e w4 ⟨rfl, h4⟩))
          all_goals
            go_roundw
            case rel => exact ⟨k + 1, _, true, none, by omega, by omega, by go_num, rfl, rfl, h4, by omega, by omega, Or.inl ⟨rfl, rfl⟩⟩
            case measure => simp [intOf]; omega
        · obtain ⟨m, rfl⟩ := Int.eq_ofNat_of_zero_le ha0
          have hml : m ≤ l.length := by omega
          rw [Int.toNat_natCast] at hst
          cases o
          · -- fewer than eight bytes are left
            obtain ⟨rfl, n1, n2⟩ := reads_no (EG.out) (EO.out)
            have SM : ∀ (w' : World) (x : Option Addr) (c : Nat), Calls Try.prog 14 #[.slice x 0 c, .slice none 0 0] w' fun e w'' => e = .returned (.bool true) ∧ w' = w'' :=
              fun w' x c => rsame_any x none 0 0 c 0 [] [] w' (fun _ => False) rfl (fun _ => rfl) (Or.inl rfl) rfl (fun _ => rfl) (Or.inl rfl)
            have SM := Lib.hid SM
            have N1 := Lib.hid n1; have N2 := Lib.hid n2
            clear n1 n2
            go_wp2_with (first
              | (go_at_call 22; refine HG.out.mono ?_; rintro e w2 ⟨rfl, rfl⟩)
              | (go_at_call 17; refine (hst.rtext_is (t := []) (s' := none) N2.out).mono ?_; rintro e w2 ⟨x, c, rfl, _, _, h2⟩)
              | (go_at_call 20; refine (hst.rnum_is (n := 0) (s' := none) N1.out).mono ?_; rintro e w2 ⟨rfl, h2⟩)
              | (go_at_call 21; refine (hst.rint_is (n := 0) (m := 0) (s' := none) N1.out (by decide)).mono ?_; rintro e w2 ⟨rfl, h2⟩)
              | (go_at_call 14; refine (SM.out _ _ _).mono ?_; rintro e w3 ⟨rfl, rfl⟩)
              | (go_at_call 18; refine (h2.done_is (b := false) (by decide)).mono ?_; rintro e w4 ⟨rfl, h4⟩))
            all_goals
              go_roundw
              case rel => exact ⟨k + 1, _, true, none, by omega, by omega, by go_num, rfl, rfl, h4, by omega, by omega, Or.inl ⟨rfl, rfl⟩⟩
              case measure => simp [intOf]; omega
          · obtain ⟨hm8, gw, n1, n2, n3⟩ := reads_yes (EG.out) (EO.out)
            obtain ⟨g0, g1⟩ := gw
            have N1 := Lib.hid n1; have N2 := Lib.hid n2; have N3 := Lib.hid n3
            clear n1 n2 n3
            by_cases hx : 1 < kd % 4
            · by_cases hg : (l.length : Int) - m - 8 < g
              · have SM : ∀ (w' : World) (x : Option Addr) (c : Nat), Calls Try.prog 14 #[.slice x 0 c, .slice none 0 0] w' fun e w'' => e = .returned (.bool true) ∧ w' = w'' :=
                  fun w' x c => rsame_any x none 0 0 c 0 [] [] w' (fun _ => False) rfl (fun _ => rfl) (Or.inl rfl) rfl (fun _ => rfl) (Or.inl rfl)
                have SM := Lib.hid SM
                have N5 := Lib.hid (N2.out hg)
                go_wp2_with (first
                  | (go_at_call 22; refine HG.out.mono ?_; rintro e w2 ⟨rfl, rfl⟩)
                  | (go_at_call 17; refine (hst.rtext_is (t := []) (s' := none) N5.out).mono ?_; rintro e w2 ⟨x, c, rfl, _, _, h2⟩)
                  | (go_at_call 14; refine (SM.out _ _ _).mono ?_; rintro e w3 ⟨rfl, rfl⟩)
                  | (go_at_call 18; refine (h2.done_is (b := false) (by decide)).mono ?_; rintro e w4 ⟨rfl, h4⟩))
                go_roundw
                case rel => exact ⟨k + 1, _, true, none, by omega, by omega, by go_num, rfl, rfl, h4, by omega, by omega, Or.inl ⟨rfl, rfl⟩⟩
                case measure => simp [intOf]; omega
              · obtain ⟨G, rfl⟩ := Int.eq_ofNat_of_zero_le g0
                have hG : (G : Int) ≤ 500 := by omega
                have N5 := N3.out (by omega)
                rw [Int.toNat_natCast] at N5
                have N5 := Lib.hid N5
                obtain ⟨b2, off2, ha2⟩ : ∃ b2 off2 : Nat, a = some ⟨b2, off2, none⟩ := by
                  rcases HLIE.out with rfl | ⟨a', rfl, _, _, hc⟩
                  · simp at hm8; omega
                  · obtain ⟨b2, off2, spot⟩ := a'
                    have hspot : spot = none := by simpa [Addr.add] using World.cell?_spot (hc 0 (by omega))
                    subst hspot
                    exact ⟨b2, off2, rfl⟩
                subst ha2
                clear g0 g1
                have hcp : (m : Int) + 8 + G ≤ cap := by have := HCAP.out; omega
                have hq : ((l.drop (m + 8)).take G).length = G := by rw [List.length_take, List.length_drop]; omega
                have HQ := Lib.hid hq
                have N4 : ∀ q, decide ((m : Int) + 8 + G = l.length) = q → decide (some (l.drop (m + 8 + G)) = some ([] : List UInt8)) = q := by
                  intro q hq
                  rw [← hq]
                  rw [Bool.eq_iff_iff]
                  simp
                  omega
                have N4 := Lib.hid N4
                clear hq
                have LP : ∀ w', Below w.heap.size w w' → Lie8 w' (fun _ => False) (some ⟨b2, off2 + (m + 8), none⟩) ((l.drop (m + 8)).take G) := fun w' hb => lie8_part HLIE.out hb
                by_cases hcm : cap = m + 8
                · have hG0 : G = 0 := by omega
                  subst hG0
                  subst hcm
                  have LP : ∀ w', Below w.heap.size w w' → Lie8 w' (fun _ => False) (some ⟨b2, off2, none⟩) ((l.drop (m + 8)).take 0) := fun w' hb => Or.inl (by simp)
                  have LP := Lib.hid LP
                  have N4' : ∀ q, decide ((m : Int) + 8 = l.length) = q → decide (some (l.drop (m + 8 + 0)) = some ([] : List UInt8)) = q := fun q hq => N4.out q (by simpa using hq)
                  have N4 := Lib.hid N4'
                  clear N4'
                  generalize (l.drop (m + 8)).take 0 = t at N5 HQ LP
                  by_cases hend : (m : Int) + 8 = l.length
                  all_goals
                    have HE := Lib.hid hend
                    have hB : (((m : Int) + 8 : Int) == (l.length : Int)) = decide (((m : Int) + 8 : Int) = (l.length : Int)) := rfl
                    (first | rw [decide_eq_true HE.out] at hB | rw [decide_eq_false HE.out] at hB)
                    clear hend
                    go_wp2_with (first
                      | (go_at_call 22; refine HG.out.mono ?_; rintro e w2 ⟨rfl, rfl⟩)
                      | (go_at_call 17; refine (hst.rtext_len N5.out HQ.out).mono ?_; rintro e w2 ⟨x, c, rfl, hx1, hx2, h2⟩)
                      | (go_at_call 14; refine (rsame_any _ _ _ _ _ _ t t w2 (fun _ => False) HQ.out (fun _ => rfl) hx2 HQ.out (fun _ => rfl) (LP.out w2 h2.below)).mono ?_; rintro e w3 ⟨rfl, rfl⟩)
                      | (go_at_call 18; (first | refine (h2.done_is (b := true) (N4.out _ (decide_eq_true HE.out))).mono ?_ | refine (h2.done_is (b := false) (N4.out _ (decide_eq_false HE.out))).mono ?_); rintro e w4 ⟨rfl, h4⟩))
                    all_goals
                      go_roundw
                      case rel => exact ⟨k + 1, _, false, _, by omega, by omega, by go_num, rfl, rfl, h4, by omega, by omega, Or.inr ⟨rfl, by omega, by have := HE.out; congr 2 <;> omega⟩⟩
                      case measure => simp [intOf]; omega
                · have LP := Lib.hid LP
                  generalize (l.drop (m + 8)).take G = t at N5 HQ LP
                  by_cases hend : (m : Int) + 8 + G = l.length
                  all_goals
                    have HE := Lib.hid hend
                    have hB : (((m : Int) + 8 + G : Int) == (l.length : Int)) = decide (((m : Int) + 8 + G : Int) = (l.length : Int)) := rfl
                    (first | rw [decide_eq_true HE.out] at hB | rw [decide_eq_false HE.out] at hB)
                    clear hend
                    go_wp2_with (first
                      | (go_at_call 22; refine HG.out.mono ?_; rintro e w2 ⟨rfl, rfl⟩)
                      | (go_at_call 17; refine (hst.rtext_len N5.out HQ.out).mono ?_; rintro e w2 ⟨x, c, rfl, hx1, hx2, h2⟩)
                      | (go_at_call 14; refine (rsame_any _ _ _ _ _ _ t t w2 (fun _ => False) HQ.out hx1 hx2 HQ.out (fun h => by cases h) (LP.out w2 h2.below)).mono ?_; rintro e w3 ⟨rfl, rfl⟩)
                      | (go_at_call 18; (first | refine (h2.done_is (b := true) (N4.out _ (decide_eq_true HE.out))).mono ?_ | refine (h2.done_is (b := false) (N4.out _ (decide_eq_false HE.out))).mono ?_); rintro e w4 ⟨rfl, h4⟩))
                    all_goals
                      go_roundw
                      case rel => exact ⟨k + 1, _, false, _, by omega, by omega, by go_num, rfl, rfl, h4, by omega, by omega, Or.inr ⟨rfl, by omega, by have := HE.out; congr 2 <;> omega⟩⟩
                      case measure => simp [intOf]; omega
            · have N4 : ∀ q, decide ((m : Int) + 8 = l.length) = q → decide (some (l.drop (m + 8)) = some ([] : List UInt8)) = q := by
                intro q hq
                rw [← hq]
                rw [Bool.eq_iff_iff]
                simp
                omega
              have N4 := Lib.hid N4
              by_cases hend : (m : Int) + 8 = l.length
              all_goals
                have HE := Lib.hid hend
                go_wp2_with (first
                  | (go_at_call 22; refine HG.out.mono ?_; rintro e w2 ⟨rfl, rfl⟩)
                  | (go_at_call 20; refine (hst.rnum_is N1.out).mono ?_; rintro e w2 ⟨rfl, h2⟩)
                  | (go_at_call 21; refine (hst.rint_is (m := wrap64 g) N1.out (asI_wrap g)).mono ?_; rintro e w2 ⟨rfl, h2⟩)
                  | (go_at_call 18; (first | refine (h2.done_is (b := true) (N4.out _ (decide_eq_true HE.out))).mono ?_ | refine (h2.done_is (b := false) (N4.out _ (decide_eq_false HE.out))).mono ?_); rintro e w4 ⟨rfl, h4⟩))
                all_goals
                  go_roundw
                  case rel => exact ⟨k + 1, _, false, _, by omega, by omega, by go_num, rfl, rfl, h4, by omega, by omega, Or.inr ⟨rfl, by omega, by have := HE.out; congr 2 <;> omega⟩⟩
                  case measure => simp [intOf]; omega
      · have hk3 : k = 40 := by omega
        subst hk3
        go_wp2_with (go_at_call 8; refine (awake_any A _).mono ?_; rintro e w2 ⟨rfl, hb2⟩)
        go_ret
        exact ⟨rfl, hst.below.trans (hb2.mono hst.below.size)⟩
    · have hk3 : k = ks.length := by omega
      subst hk3
      go_wp2_with (go_at_call 8; refine (awake_any A _).mono ?_; rintro e w2 ⟨rfl, hb2⟩)
      go_ret
      exact ⟨rfl, hst.below.trans (hb2.mono hst.below.size)⟩
end Go.Proofs.Ytcnnfmooigfeiaa
