/- append of bytes that lie in memory (none, where the source is nil) to a row of the call's own. Conditions: as each says. -/
import Derived.Test.YtlodklmcamanpaaAppend
import Derived.Test.YtlodklmcamanpaaB8
import Derived.Laws.AppendOwnNone
namespace Go.Proofs.Ytlodklmcamanpaa
open Go.RowKit Go.WideShapes

theorem run_append8 (w : World) (ty : TypeId) (base : Nat) (v : Value) (m : Nat) (l : List UInt8) (hown : w.ownsRow base 5 1 v m (cells8 l)) (A : Option Addr) (n cap : Nat) (t : List UInt8) {F : Nat → Prop} (ht : t.length = n) (hnc : n ≤ cap) (hA : A = none → cap = 0) (hl : Lie8 w F A t)
    (hsm : m + n ≤ 1099511627776) (hbase : base ≤ w.heap.size) :
    ∃ v' w', (Builtin.append_ #[26, 26] ty #[v, .slice A n cap]).run Try.prog w = .ok v' w' ∧ w'.ownsRow base 5 1 v' (m + n) (cells8 (l ++ t)) ∧ w.grownBy w' v.ownBlock ∧ (∀ k, v'.ownBlock = some k → v.ownBlock = some k ∨ w.heap.size ≤ k) := by
  obtain ⟨i0, hi, hz0, hz1, hz2⟩ := info_parts u8_info
  rcases A with _ | a
  · obtain rfl := hA rfl
    obtain rfl : n = 0 := by omega
    obtain rfl := List.eq_nil_of_length_eq_zero ht
    rw [List.append_nil]
    exact ⟨v, w, run_append_owned_none w base 26 ty 5 i0 1 Try.underlying26 hi v m (cells8 l) hown, hown, ⟨rfl, rfl, rfl, Nat.le_refl _, fun _ _ _ => rfl⟩, fun k hk => Or.inl hk⟩
  · have hcell : ∀ j u, (cells8 t)[j]? = some u → w.cell? (a.add j) = some u := by
      intro j u hu
      obtain ⟨hj, rfl⟩ := cells8_some hu
      rcases hl with rfl | ⟨a', ha, _, _, hc⟩
      · simp at hj
      · obtain rfl := Option.some.inj ha
        exact hc j hj
    rw [cells8_append]
    exact run_append_here w base 26 ty 5 i0 (.int .u8 0) 1 1 Try.underlying26 hi hz0 hz1 hz2 rfl (by decide) v m (cells8 l) hown a n cap (cells8 t) (by rw [cells8_length]; omega) hcell (cells8_one t) (by unfold maxLen; omega) (by omega) hbase
theorem wp_append8 {w : World} {o : Oper} {a : Act} {K : Act → World → Prop} {Q : Exit → Act → World → Prop} (s x : Operand)
    (ho : o.op = .call { callee := .builtin .append, args := #[s, x], argTypes := #[26, 26] }) (base : Nat) (v : Value) (m : Nat) (l : List UInt8) (hs : a.eval s = v) (hown : w.ownsRow base 5 1 v m (cells8 l)) (A : Option Addr) (n cap : Nat) (t : List UInt8) {F : Nat → Prop} (hx : a.eval x = .slice A n cap) (ht : t.length = n) (hnc : n ≤ cap) (hA : A = none → cap = 0) (hl : Lie8 w F A t)
    (hsm : m + n ≤ 1099511627776) (hbase : base ≤ w.heap.size)
    (h : ∀ v' w', w'.ownsRow base 5 1 v' (m + n) (cells8 (l ++ t)) → w.grownBy w' v.ownBlock → (∀ k, v'.ownBlock = some k → v.ownBlock = some k ∨ w.heap.size ≤ k) → K (a.put o.dst v') w') : o.wp Try.prog a w K Q := by
  obtain ⟨v', w', hr, k1, k2, k3⟩ := run_append8 w o.type base v m l hown A n cap t ht hnc hA hl hsm hbase
  unfold Oper.wp execOp
  simp only [ho, resolve, invoke, builtin, Sem.run_bind, Sem.run_pure, Result.andThen_ok, List.map_toArray, List.map_cons, List.map_nil, hs, hx, hr]
  exact h v' w' k1 k2 k3
theorem wpList_append8 {w : World} {ops : Array Oper} {rest : List Oper} {o : Oper} {a : Act} {Q : Exit → Act → World → Prop} (hgd : o.guard = none) (s x : Operand)
    (ho : o.op = .call { callee := .builtin .append, args := #[s, x], argTypes := #[26, 26] }) (base : Nat) (v : Value) (m : Nat) (l : List UInt8) (hs : a.eval s = v) (hown : w.ownsRow base 5 1 v m (cells8 l)) (A : Option Addr) (n cap : Nat) (t : List UInt8) {F : Nat → Prop} (hx : a.eval x = .slice A n cap) (ht : t.length = n) (hnc : n ≤ cap) (hA : A = none → cap = 0) (hl : Lie8 w F A t)
    (hsm : m + n ≤ 1099511627776) (hbase : base ≤ w.heap.size)
    (h : ∀ v' w', w'.ownsRow base 5 1 v' (m + n) (cells8 (l ++ t)) → w.grownBy w' v.ownBlock → (∀ k, v'.ownBlock = some k → v.ownBlock = some k ∨ w.heap.size ≤ k) → wpList Try.prog ops Q rest (a.put o.dst v') w') : wpList Try.prog ops Q (o :: rest) a w :=
  wpList_plain hgd fun _ hK => wp_append8 s x ho base v m l hs hown A n cap t hx ht hnc hA hl hsm hbase fun v' w' h2 h3 h4 => hK _ _ (h v' w' h2 h3 h4)
theorem step_append8 {w : World} {ops : Array Oper} {o : Oper} {a : Act} {K : Act → World → Prop} {Q : Exit → Act → World → Prop} {E : Prop} (b : Bool) (hgd : Region.wanted o (yielded ops a.tmps) = b) (hb : b = true) (s x : Operand)
    (ho : o.op = .call { callee := .builtin .append, args := #[s, x], argTypes := #[26, 26] }) (base : Nat) (v : Value) (m : Nat) (l : List UInt8) (hs : a.eval s = v) (hown : w.ownsRow base 5 1 v m (cells8 l)) (A : Option Addr) (n cap : Nat) (t : List UInt8) {F : Nat → Prop} (hx : a.eval x = .slice A n cap) (ht : t.length = n) (hnc : n ≤ cap) (hA : A = none → cap = 0) (hl : Lie8 w F A t)
    (hsm : m + n ≤ 1099511627776) (hbase : base ≤ w.heap.size)
    (h : ∀ v' w', w'.ownsRow base 5 1 v' (m + n) (cells8 (l ++ t)) → w.grownBy w' v.ownBlock → (∀ k, v'.ownBlock = some k → v.ownBlock = some k ∨ w.heap.size ≤ k) → K (a.put o.dst v') w') :
    if Region.wanted o (yielded ops a.tmps) = true then Oper.wp Try.prog o a w K Q else E := by
  rw [hgd, if_pos hb]
  exact wp_append8 s x ho base v m l hs hown A n cap t hx ht hnc hA hl hsm hbase h
/-- A thing's row has grown. -/
theorem Turns.append8 {F0 : Nat → Prop} {w0 w w' : World} {v v' : Value} {l more : List UInt8} {n : Nat} {R : HP} (h : Turns F0 w0 w (star (B8 v l) R)) [hR : Stable R] (hn : (l ++ more).length = n) (hown : w'.ownsRow 0 5 1 v' n (cells8 (l ++ more))) (hgr : w.grownBy w' v.ownBlock) (hfr : ∀ k, v'.ownBlock = some k → v.ownBlock = some k ∨ w.heap.size ≤ k) :
    Turns F0 w0 w' (star (B8 v' (l ++ more)) R) := by
  subst hn
  exact Turns.step h fun F hp => ⟨fun k => v'.ownBlock = some k, ⟨hown, fun _ => Iff.rfl⟩, (Chg.refl _ _).grown hgr (fun k hk _ => (hp.2 k).2 hk), fun k hk => (hfr k hk).imp (fun h => (hp.2 k).2 h) id⟩
theorem Turns.b8 {F0 : Nat → Prop} {w0 w : World} {v : Value} {l : List UInt8} {R : HP} (h : Turns F0 w0 w (star (B8 v l) R)) : w.ownsRow 0 5 1 v l.length (cells8 l) := by
  obtain ⟨F, ⟨A, B, hp, _⟩, _⟩ := h
  exact hp.1
/-- A row made just now, of one byte, or none. -/
theorem row_none (w : World) : (w.alloc (.cells #[] 5)).ownsRow w.heap.size 5 1 (.slice (some ⟨w.heap.size, 0, none⟩) 0 0) 0 (cells8 []) := World.ownsRow_made w #[] 0 (Nat.le_refl _) (Nat.zero_le _) rfl
theorem row_lit (w : World) (l : List UInt8) (C : Array Value) (n : Nat) (h : C.toList = cells8 l) (hn : l.length = n) (hm : n ≤ 1000) : (w.alloc (.cells C 5)).ownsRow w.heap.size 5 1 (.slice (some ⟨w.heap.size, 0, none⟩) n n) n (cells8 l) := by
  have hs : C.size = n * 1 := by rw [← Array.length_toList, h, cells8_length, hn, Nat.mul_one]
  have := World.ownsRow_lit (e := 5) (size := 1) (base := w.heap.size) w C n (Nat.le_refl _) (by unfold maxLen; omega) hs
  rw [h] at this
  exact this
theorem bits_xor8 (x c : UInt8) : bits .xor .u8 (x.toNat : Int) (c.toNat : Int) = ((x ^^^ c).toNat : Int) := by
  have hx := x.toNat_lt
  have hc := c.toNat_lt
  have h1 : (BitVec.ofInt 8 (x.toNat : Int)).toNat = x.toNat := by
    rw [BitVec.ofInt_natCast, BitVec.toNat_ofNat]; exact Nat.mod_eq_of_lt (by omega)
  have h2 : (BitVec.ofInt 8 (c.toNat : Int)).toNat = c.toNat := by
    rw [BitVec.ofInt_natCast, BitVec.toNat_ofNat]; exact Nat.mod_eq_of_lt (by omega)
  have h3 : x.toNat ^^^ c.toNat < 2 ^ 8 := Nat.xor_lt_two_pow hx hc
  show IntKind.u8.wrap ((BitVec.ofInt 8 (x.toNat : Int) ^^^ BitVec.ofInt 8 (c.toNat : Int)).toNat : Int) = _
  rw [BitVec.toNat_xor, h1, h2, UInt8.toNat_xor]
  show ((x.toNat ^^^ c.toNat : Nat) : Int) % 256 = _
  omega
end Go.Proofs.Ytlodklmcamanpaa
