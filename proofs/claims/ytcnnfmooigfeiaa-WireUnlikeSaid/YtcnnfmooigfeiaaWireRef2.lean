/- The document's own answers of layer 2, more: a text's bytes, whether two rows are the same, the number at a place. Conditions: as each says. -/
import Derived.Test.YtcnnfmooigfeiaaWireRef
import Derived.Laws.BitsLemmas
namespace Go.Proofs.Ytcnnfmooigfeiaa
open Go.RowKit Go.WideShapes

set_option maxHeartbeats 1000000 in
theorem rtext_any (A : Option Addr) (n cap : Nat) (t : List UInt8) (w : World) (ht : t.length = n) (hn : n ≤ 1073741824) (hcap : n ≤ cap) (hnil : A = none → cap = 0) (hl : Lie8 w (fun _ => False) A t) :
    Calls Try.prog 15 #[.slice A n cap] w fun e w' => ∃ v, e = .returned v ∧ Fresh8 w w' v (text8 t) := by
  obtain ⟨i0, hi, hz0, hz1, hz2⟩ := info_parts u8_info
  have hn2 : (n : Int) ≤ 1073741824 := by omega
  go_enter Try.func15, Try.ntmps15
  go_wp2_with fail
  refine (rnum_any n ⟨by omega, by omega⟩ w).mono ?_
  rintro e w1 ⟨v, rfl, hown, hb⟩
  rcases A with _ | a
  · obtain rfl := hnil rfl
    have h0 : n = 0 := by omega
    subst h0
    have h1 : t = [] := List.eq_nil_of_length_eq_zero ht
    subst h1
    go_wp2_with (at_builtin; refine wpList_append_own_none (by rfl) (.tmp 6) (.tmp 7) _ rfl w.heap.size 5 i0 1 Try.underlying25 hi _ _ _ rfl hown rfl ?_)
    go_ret
    exact ⟨_, rfl, by simpa [text8] using hown, hb⟩
  · have hsrc : ∀ (j : Nat) (u : Value), (cells8 t)[j]? = some u → w1.cell? (a.add j) = some u := by
      intro j u hu
      obtain ⟨hj, rfl⟩ := cells8_some hu
      rcases hl.below hb with rfl | ⟨a', ha, _, _, hc⟩
      · simp at hj
      · obtain rfl := Option.some.inj ha
        exact hc j hj
    go_wp2_with (at_builtin; refine wpList_append_own _ rfl (.tmp 6) (.tmp 7) _ rfl w.heap.size 5 i0 (.int .u8 0) 1 1 Try.underlying25 hi hz0 hz1 hz2 rfl (by decide) _ _ _ rfl hown a n cap (cells8 t) rfl (by rw [cells8_length]; omega) hsrc (cells8_one t) (by rw [num8_length]; unfold maxLen; omega) (by rw [num8_length]; omega) (by have := hb.size; omega) ?_)
    intro v2 w2 hown2 hg2 _
    have hb2 := hb.grown hg2 hb.size (fun k hk => (hown.lt k hk).1)
    have hown3 : w2.ownsRow w.heap.size 5 1 v2 (text8 t).length (cells8 (text8 t)) := by
      have e : (text8 t).length = (num8 n).length + n := by unfold text8; rw [List.length_append, ht, num8_length]
      rw [e]; unfold text8; rw [cells8_append, ht]; exact hown2
    clear hown hown2 hg2 hsrc hl hb
    go_wp2
    go_ret
    exact ⟨_, rfl, hown3, hb2⟩

theorem bytes_eq (s t : List UInt8) : ((⟨s.toArray⟩ : ByteArray) = ⟨t.toArray⟩) ↔ s = t := by
  constructor
  · intro h
    have := congrArg (fun b : ByteArray => b.data.toList) h
    simpa using this
  · rintro rfl; rfl
theorem rsame_any (A B : Option Addr) (n m cap cap2 : Nat) (s t : List UInt8) (w : World) (F : Nat → Prop) (hs : s.length = n) (hA : A = none → n = 0) (hls : Lie8 w F A s) (ht : t.length = m) (hB : B = none → m = 0) (hlt : Lie8 w F B t) :
    Calls Try.prog 14 #[.slice A n cap, .slice B m cap2] w fun e w' => e = .returned (.bool (decide (s = t))) ∧ w = w' := by
  have c1 := conv8 (P := Try.prog) (src := 25) (dst := 9) (cap := cap) Try.underlying25 Try.underlying5 Try.underlying9 hs hA hls
  have c2 := conv8 (P := Try.prog) (src := 25) (dst := 9) (cap := cap2) Try.underlying25 Try.underlying5 Try.underlying9 ht hB hlt
  have e : ∀ (x y : ByteArray), x = ⟨s.toArray⟩ → y = ⟨t.toArray⟩ → (x.toList == y.toList) = decide (s = t) := by
    rintro x y rfl rfl
    rw [ByteArray.toList_eq, ByteArray.toList_eq, Bool.eq_iff_iff]
    simp
  have E := Lib.hid e
  obtain ⟨x, hx⟩ : ∃ x : ByteArray, x = ⟨s.toArray⟩ := ⟨_, rfl⟩
  obtain ⟨y, hy⟩ : ∃ x : ByteArray, x = ⟨t.toArray⟩ := ⟨_, rfl⟩
  rw [← hx] at c1; rw [← hy] at c2
  have HX := Lib.hid hx; have HY := Lib.hid hy
  clear e hls hlt hs ht hx hy
  go_enter Try.func14, Try.ntmps14
  go_wp2
  go_ret
  exact ⟨by rw [← E.out x y HX.out HY.out]; rfl, rfl⟩

/-! ### Get -/
theorem get8_snoc (l : List UInt8) (b : UInt8) : get8 (l ++ [b]) = get8 l * 256 + (b.toNat : Int) := by
  simp [get8, List.foldl_append]
theorem or8 (x b : Int) (h0 : 0 ≤ x) (h1 : x < 72057594037927936) (b0 : 0 ≤ b) (b1 : b < 256) : bits .or .u64 (x * 256) b = x * 256 + b :=
  bits_join .u64 64 (by decide) (fun n a c => by rw [IntKind.wrap_u64]; omega) 8 (x * 256) b (by omega) (by omega) (by omega) b0 (by omega) (by omega)
theorem get8_bound (l : List UInt8) : ∀ k : Nat, l.length = k → 0 ≤ get8 l ∧ get8 l < 256 ^ k := by
  intro k
  induction k generalizing l with
  | zero => intro h; obtain rfl := List.eq_nil_of_length_eq_zero h; exact ⟨by decide, by decide⟩
  | succ k ih =>
    intro h
    obtain ⟨l', b, rfl⟩ : ∃ l' b, l = l' ++ [b] := by
      rcases List.eq_nil_or_concat l with rfl | ⟨l', b, e⟩
      · simp at h
      · exact ⟨l', b, by rw [e, List.concat_eq_append]⟩
    rw [List.length_append] at h
    have h2 := ih l' (by simp at h; omega)
    have hb := b.toNat_lt
    rw [get8_snoc, Int.pow_succ]
    omega
theorem pow7 : ∀ k : Fin 8, (256 : Int) ^ (k : Nat) ≤ 72057594037927936 := by decide
/-- What Get tells. -/
def getN (l : List UInt8) (at_ : Int) : Int := if 0 ≤ at_ ∧ at_ ≤ (l.length : Int) - 8 then get8 ((l.drop at_.toNat).take 8) else 0
def getOk (l : List UInt8) (at_ : Int) : Bool := decide (0 ≤ at_ ∧ at_ ≤ (l.length : Int) - 8)

set_option maxHeartbeats 1000000 in
theorem rget_no (A : Option Addr) (n cap : Nat) (at_ : Int) (w : World) (hn : n ≤ 1073741824) (h : at_ < 0 ∨ (0 ≤ at_ ∧ (n : Int) - 8 < at_)) :
    Calls Try.prog 22 #[.slice A n cap, .int .i64 at_] w fun e w' => e = .returned (.tuple #[.int .u64 0, .bool false]) ∧ w = w' := by
  have hn2 : (n : Int) ≤ 1073741824 := by omega
  rcases h with h | ⟨h0, h⟩
  all_goals
    go_enter Try.func22, Try.ntmps22
    go_wp2
    go_ret2
    exact ⟨rfl, rfl⟩

set_option maxHeartbeats 2000000 in
theorem rget_yes (b off n cap at_ : Nat) (l : List UInt8) (w : World) (hl : l.length = n) (hn : n ≤ 1073741824) (h : at_ + 8 ≤ n)
    (hc : ∀ j (hj : j < l.length), w.cell? ⟨b, off + j, none⟩ = some (.int .u8 (l[j].toNat : Int))) :
    Calls Try.prog 22 #[.slice (some ⟨b, off, none⟩) n cap, .int .i64 at_] w fun e w' => e = .returned (.tuple #[.int .u64 (get8 ((l.drop at_).take 8)), .bool true]) ∧ w = w' := by
  have HC := Lib.hid hc; have HL := Lib.hid hl
  clear hc hl
  have h0 : (0 : Int) ≤ at_ := by omega
  have h1 : (at_ : Int) ≤ (n : Int) - 8 := by omega
  go_enter Try.func22, Try.ntmps22
  go_wp2
  go_loop [6, 7] (fun t i => ∃ k : Nat, k ≤ 8 ∧ i = .int .i64 k ∧ t = .int .u64 (get8 ((l.drop at_).take k))) (fun _ i => 8 - (intOf i).toNat)
  case atStart => exact ⟨0, by omega, rfl, rfl⟩
  case round =>
    obtain ⟨k, hk, rfl, rfl⟩ := hrel
    by_cases hk8 : k < 8
    · have hlk : ((l.drop at_).take k).length = k := by rw [List.length_take, List.length_drop, HL.out]; omega
      have hbd := get8_bound _ k hlk
      have hbd2 : get8 ((l.drop at_).take k) < 72057594037927936 := by
        have hp := pow7 ⟨k, hk8⟩
        simp only at hp
        omega
      have hj : at_ + k < l.length := by rw [HL.out]; omega
      have hcell := HC.out (at_ + k) hj
      have hsn : (l.drop at_).take (k + 1) = (l.drop at_).take k ++ [l[at_ + k]] := by
        rw [List.take_succ_eq_append_getElem (by rw [List.length_drop]; omega)]; simp
      have HS : get8 ((l.drop at_).take (k + 1)) = get8 ((l.drop at_).take k) * 256 + (l[at_ + k].toNat : Int) := by rw [hsn, get8_snoc]
      have HS := Lib.hid HS
      have hbt := l[at_ + k].toNat_lt
      have hb0 := hbd.1
      clear hsn hbd hlk
      generalize l[at_ + k].toNat = y at hcell HS hbt
      generalize get8 ((l.drop at_).take k) = t at HS hb0 hbd2 ⊢
      have hor := or8 t y hb0 hbd2 (by omega) (by omega)
      go_wp2
      go_round
      case rel => exact ⟨k + 1, by omega, by go_num, by rw [HS.out]⟩
      case measure => simp [intOf]; omega
    · have hk3 : k = 8 := by omega
      subst hk3
      go_wp2
      go_ret2
      exact ⟨rfl, rfl⟩

/-- Get, whatever the place. -/
theorem rget_any (A : Option Addr) (n cap : Nat) (at_ : Int) (l : List UInt8) (w : World) (F : Nat → Prop) (hl : l.length = n) (hn : n ≤ 1073741824) (hb0 : -9223372036854775808 ≤ at_) (hb1 : at_ < 9223372036854775808) (hr : Lie8 w F A l) :
    Calls Try.prog 22 #[.slice A n cap, .int .i64 at_] w fun e w' => e = .returned (.tuple #[.int .u64 (getN l at_), .bool (getOk l at_)]) ∧ w = w' := by
  by_cases h : 0 ≤ at_ ∧ at_ ≤ (l.length : Int) - 8
  · obtain ⟨m, rfl⟩ := Int.eq_ofNat_of_zero_le h.1
    have hm : m + 8 ≤ n := by omega
    have e1 : getN l m = get8 ((l.drop m).take 8) := by simp only [getN, if_pos h, Int.toNat_natCast]
    have e2 : getOk l m = true := by simp only [getOk, decide_eq_true h]
    rw [e1, e2]
    rcases hr with rfl | ⟨a, rfl, _, _, hc⟩
    · simp at hl; omega
    · obtain ⟨b, off, spot⟩ := a
      have hspot : spot = none := by simpa [Addr.add] using World.cell?_spot (hc 0 (by omega))
      subst hspot
      exact rget_yes b off n cap m l w hl hn hm (fun j hj => by rw [← add_plain]; exact hc j hj)
  · have e1 : getN l at_ = 0 := by simp only [getN, if_neg h]
    have e2 : getOk l at_ = false := by simp only [getOk, decide_eq_false h]
    rw [e1, e2]
    exact rget_no A n cap at_ w hn (by rw [hl] at h; omega)
end Go.Proofs.Ytcnnfmooigfeiaa
