/- A writer of package wire, and what its calls do. Conditions: a writer that New made; what was written is fewer than 2^30 bytes. -/
import Derived.Test.YtcnnfmooigfeiaaWireBase
import Derived.LoopTactic
import Derived.RegionTactic
import Derived.Deep.RegionLaw
import Derived.Deep.QuietTactic
import Derived.BigQuiet
import Derived.IntWalk
namespace Go.Proofs.Ytcnnfmooigfeiaa
open Go.RowKit Go.WideShapes

/-- A writer at block b that has the bytes l: one cell with a row of its own, in another block. -/
def WrAt (w : World) (b : Nat) (s : Value) (l : List UInt8) : Prop :=
  w.heap[b]? = some (.cells #[s] 54 (0, 0)) ∧ w.ownsRow 0 5 1 s l.length (cells8 l) ∧ s.ownBlock ≠ some b
def IsWr (w : World) (v : Value) (l : List UInt8) (F : Nat → Prop) : Prop :=
  ∃ b s, v = .pointer (some ⟨b, 0, none⟩) ∧ WrAt w b s l ∧ (∀ k, F k ↔ (k = b ∨ s.ownBlock = some k))

theorem wr_new (w : World) : Calls Try.prog 9 #[] w fun e w' => ∃ v F, e = .returned v ∧ IsWr w' v [] F ∧ (∀ k, F k → w.heap.size ≤ k) ∧ Below w.heap.size w w' := by
  go_enter Try.func9, Try.ntmps9
  go_wp2
  go_ret
  refine ⟨_, fun k => k = w.heap.size, rfl, ⟨w.heap.size, .slice none 0 0, rfl, ⟨heap_alloc_new w _, World.ownsRow_nil _ _ _ _, by simp [Value.ownBlock]⟩, by simp [Value.ownBlock]⟩, fun k hk => by omega, (Below.refl _ _).alloc (Nat.le_refl _) _⟩

theorem wr_bytes {w : World} {v : Value} {l : List UInt8} {F : Nat → Prop} (h : IsWr w v l F) (hl : l.length ≤ 2147483648) :
    Calls Try.prog 13 #[v] w fun e w' => ∃ x, e = .returned x ∧ Fresh8 w w' x l := by
  obtain ⟨b, s, rfl, ⟨hb, hs, hne⟩, hF⟩ := h
  obtain ⟨A, cap, rfl, hlen, hcap, hnil, hlie⟩ := lie8_own (F := fun _ => False) hs (fun _ _ h => h)
  have hc := cell_of_one hb
  go_enter Try.func13, Try.ntmps13
  go_wp2_with (go_at_call 23; refine (own_any A _ cap l w (fun _ => False) rfl hl hnil hcap hlie).mono ?_; rintro e w' ⟨x, rfl, hx⟩)
  go_ret
  exact ⟨_, rfl, hx⟩

/-- append to a row of the call's own: what is told lies where the row lay, or in new memory. -/
theorem run_append_here {P : Program} (w : World) (base : Nat) (t ty e : TypeId) (i : TypeInfo) (z : Value) (size bytes : Nat) (ht : P.underlying t = some (.slice e)) (hi : P.info? e = some i) (hz : i.zero = some z)
    (hsize : i.size = size) (hby : i.bytes = bytes) (hzs : z.cells.size = size) (hsz : 0 < size)
    (v : Value) (n : Nat) (xs : List Value) (hown : w.ownsRow base e size v n xs)
    (a : Addr) (m c : Nat) (news : List Value) (hl : news.length = m * size) (hnews : ∀ j u, news[j]? = some u → w.cell? (a.add j) = some u) (h1 : ∀ u ∈ news, u.oneCell' = true)
    (h63 : n + m ≤ maxLen) (hbytes : (n + m) * bytes ≤ 140737488355328) (hbase : base ≤ w.heap.size) :
    ∃ v' w', (Builtin.append_ #[t, t] ty #[v, .slice (some a) m c]).run P w = .ok v' w' ∧ w'.ownsRow base e size v' (n + m) (xs ++ news) ∧ w.grownBy w' v.ownBlock ∧
      (∀ k, v'.ownBlock = some k → v.ownBlock = some k ∨ w.heap.size ≤ k) := by
  obtain ⟨v', w', hr, hr1, hr2, _⟩ := run_append_own (P := P) w base t ty e i z size bytes ht hi hz hsize hby hzs hsz v n xs hown a m c news hl hnews h1 h63 hbytes hbase
  refine ⟨v', w', hr, hr1, hr2, ?_⟩
  have hsmall : n + m ≤ 9223372036854775807 := by simp only [maxLen] at h63; omega
  rcases hown.2 with ⟨rfl, rfl⟩ | ⟨g, cap, cur, rfl, hbg, hg, hnc, hcm, hcs, htake⟩
  · have hx : xs = [] := List.eq_nil_of_length_eq_zero (by simpa using hown.1)
    subst hx
    obtain ⟨v2, w2, k1, k2, _⟩ := run_append_own (P := P) w w.heap.size t ty e i z size bytes ht hi hz hsize hby hzs hsz (.slice none 0 0) 0 [] (World.ownsRow_nil _ _ _ _) a m c news hl hnews h1 h63 hbytes (Nat.le_refl _)
    rw [hr] at k1
    injection k1 with e1 e2
    subst e1; subst e2
    exact fun k hk => Or.inr (k2.lt k hk).1
  · by_cases hroom : n + m ≤ cap
    · obtain ⟨w2, k1, _⟩ := run_append_fits (P := P) w base t ty e i size ht hi hsize g n cap xs hown a m c news hl hnews h1 hroom
      rw [hr] at k1
      injection k1 with e1 e2
      subst e1
      exact fun k hk => Or.inl hk
    · have holds : ∀ j u, xs[j]? = some u → w.cell? ((⟨g, 0, none⟩ : Addr).add j) = some u := hown.cells (g := g) rfl
      subst hsize; subst hby
      have k1 := run_append_grow (P := P) w t ty e i z ht hi hz ⟨g, 0, none⟩ n cap xs hown.1 holds a m c news hl hnews (by omega) (by omega) (growslice_fits (by omega) hbytes)
      rw [hr] at k1
      injection k1 with e1 e2
      subst e1
      intro k hk
      simp only [Value.ownBlock, Option.some.injEq] at hk
      exact Or.inr (by omega)

theorem wp_append_here {P : Program} {w : World} {o : Oper} {a : Act} {K : Act → World → Prop} {Q : Exit → Act → World → Prop} (s x : Operand) (t : TypeId)
    (ho : o.op = .call { callee := .builtin .append, args := #[s, x], argTypes := #[t, t] })
    (base : Nat) (e : TypeId) (i : TypeInfo) (z : Value) (size bytes : Nat) (ht : P.underlying t = some (.slice e)) (hi : P.info? e = some i) (hz : i.zero = some z)
    (hsize : i.size = size) (hby : i.bytes = bytes) (hzs : z.cells.size = size) (hsz : 0 < size)
    (v : Value) (n : Nat) (xs : List Value) (hs : a.eval s = v) (hown : w.ownsRow base e size v n xs)
    (ad : Addr) (m c : Nat) (news : List Value) (hx : a.eval x = .slice (some ad) m c) (hl : news.length = m * size) (hnews : ∀ j u, news[j]? = some u → w.cell? (ad.add j) = some u) (h1 : ∀ u ∈ news, u.oneCell' = true)
    (h63 : n + m ≤ maxLen) (hbytes : (n + m) * bytes ≤ 140737488355328) (hbase : base ≤ w.heap.size)
    (h : ∀ v' w', w'.ownsRow base e size v' (n + m) (xs ++ news) → w.grownBy w' v.ownBlock → (∀ k, v'.ownBlock = some k → v.ownBlock = some k ∨ w.heap.size ≤ k) → K (a.put o.dst v') w') : o.wp P a w K Q := by
  obtain ⟨v', w', hr, k1, k2, k3⟩ := run_append_here (P := P) w base t o.type e i z size bytes ht hi hz hsize hby hzs hsz v n xs hown ad m c news hl hnews h1 h63 hbytes hbase
  unfold Oper.wp execOp
  simp only [ho, resolve, invoke, builtin, Sem.run_bind, Sem.run_pure, Result.andThen_ok, List.map_toArray, List.map_cons, List.map_nil, hs, hx, hr]
  exact h v' w' k1 k2 k3

theorem wpList_append_here {P : Program} {w : World} {ops : Array Oper} {rest : List Oper} {o : Oper} {a : Act} {Q : Exit → Act → World → Prop} (hgd : o.guard = none) (s x : Operand) (t : TypeId)
    (ho : o.op = .call { callee := .builtin .append, args := #[s, x], argTypes := #[t, t] })
    (base : Nat) (e : TypeId) (i : TypeInfo) (z : Value) (size bytes : Nat) (ht : P.underlying t = some (.slice e)) (hi : P.info? e = some i) (hz : i.zero = some z)
    (hsize : i.size = size) (hby : i.bytes = bytes) (hzs : z.cells.size = size) (hsz : 0 < size)
    (v : Value) (n : Nat) (xs : List Value) (hs : a.eval s = v) (hown : w.ownsRow base e size v n xs)
    (ad : Addr) (m c : Nat) (news : List Value) (hx : a.eval x = .slice (some ad) m c) (hl : news.length = m * size) (hnews : ∀ j u, news[j]? = some u → w.cell? (ad.add j) = some u) (h1 : ∀ u ∈ news, u.oneCell' = true)
    (h63 : n + m ≤ maxLen) (hbytes : (n + m) * bytes ≤ 140737488355328) (hbase : base ≤ w.heap.size)
    (h : ∀ v' w', w'.ownsRow base e size v' (n + m) (xs ++ news) → w.grownBy w' v.ownBlock → (∀ k, v'.ownBlock = some k → v.ownBlock = some k ∨ w.heap.size ≤ k) → wpList P ops Q rest (a.put o.dst v') w') : wpList P ops Q (o :: rest) a w :=
  wpList_plain hgd fun _ hK => wp_append_here s x t ho base e i z size bytes ht hi hz hsize hby hzs hsz v n xs hs hown ad m c news hx hl hnews h1 h63 hbytes hbase fun v' w' h2 h3 h4 => hK _ _ (h v' w' h2 h3 h4)

theorem step_append_here {P : Program} {ops : Array Oper} {o : Oper} {a : Act} {w : World} {K : Act → World → Prop} {Q : Exit → Act → World → Prop} {E : Prop}
    (hg : o.guard = none) (s x : Operand) (t : TypeId) (hop : o.op = Op.call { callee := Callee.builtin Builtin.append, args := #[s, x], argTypes := #[t, t] })
    (base : Nat) (e : TypeId) (i : TypeInfo) (z : Value) (size bytes : Nat) (ht : P.underlying t = some (.slice e)) (hi : P.info? e = some i) (hz : i.zero = some z)
    (hsize : i.size = size) (hby : i.bytes = bytes) (hzs : z.cells.size = size) (hsz : 0 < size)
    (v : Value) (n : Nat) (xs : List Value) (hs : a.eval s = v) (hown : w.ownsRow base e size v n xs)
    (ad : Addr) (m c : Nat) (news : List Value) (hx : a.eval x = .slice (some ad) m c) (hl : news.length = m * size) (hnews : ∀ j u, news[j]? = some u → w.cell? (ad.add j) = some u) (h1 : ∀ u ∈ news, u.oneCell' = true)
    (h63 : n + m ≤ maxLen) (hbytes : (n + m) * bytes ≤ 140737488355328) (hbase : base ≤ w.heap.size)
    (h : ∀ v' w', w'.ownsRow base e size v' (n + m) (xs ++ news) → w.grownBy w' v.ownBlock → (∀ k, v'.ownBlock = some k → v.ownBlock = some k ∨ w.heap.size ≤ k) → K (a.put o.dst v') w') :
    if Region.wanted o (yielded ops a.tmps) = true then Oper.wp P o a w K Q else E := by
  have hw : Region.wanted o (yielded ops a.tmps) = true := by simp [Region.wanted, hg]
  rw [if_pos hw]
  exact wp_append_here s x t hop base e i z size bytes ht hi hz hsize hby hzs hsz v n xs hs hown ad m c news hx hl hnews h1 h63 hbytes hbase h

/-- What a store of the grown row leaves. -/
theorem wr_stored {w w1 : World} {b : Nat} {s v' : Value} {l more : List UInt8} (h : WrAt w b s l) (hown : w1.ownsRow 0 5 1 v' (l.length + more.length) (cells8 l ++ cells8 more)) (hgr : w.grownBy w1 s.ownBlock) (hfr : ∀ k, v'.ownBlock = some k → s.ownBlock = some k ∨ w.heap.size ≤ k) :
    WrAt (w1.setCell ⟨b, 0, none⟩ v') b v' (l ++ more) ∧ Chg (fun k => k = b ∨ s.ownBlock = some k) w (w1.setCell ⟨b, 0, none⟩ v') ∧ (∀ k, (k = b ∨ v'.ownBlock = some k) → (k = b ∨ s.ownBlock = some k) ∨ w.heap.size ≤ k) := by
  obtain ⟨hb, hs, hne⟩ := h
  have hlt := lt_of_block hb
  have hb1 : w1.heap[b]? = some (.cells #[s] 54 (0, 0)) := (hgr.block b hlt (fun e => hne e.symm)).trans hb
  have hne' : v'.ownBlock ≠ some b := fun e => by
    rcases hfr b e with h | h
    · exact hne h
    · omega
  refine ⟨⟨one_setCell hb1, ?_, hne'⟩, ?_, ?_⟩
  · have := ownsRow_setCell_other hown (a := ⟨b, 0, none⟩) hne' v'
    rw [← cells8_append] at this
    rw [List.length_append]
    exact this
  · have hc : Chg (fun k => k = b ∨ s.ownBlock = some k) w w1 := (Chg.refl _ _).grown hgr (fun k hk _ => Or.inr hk)
    exact hc.setCell (p := ⟨b, 0, none⟩) (fun _ => Or.inl rfl) _
  · rintro k (rfl | h)
    · exact Or.inl (Or.inl rfl)
    · exact (hfr k h).imp Or.inr id

/-- A value that holds at least one thing is no nil. -/
theorem own_shape {w : World} {base n : Nat} {e : TypeId} {v : Value} {xs : List Value} (h : w.ownsRow base e 1 v n xs) (h0 : n ≠ 0) : ∃ g cap, v = .slice (some ⟨g, 0, none⟩) n cap := by
  rcases h.2 with ⟨_, h⟩ | ⟨g, cap, _, h, _⟩
  · exact absurd h h0
  · exact ⟨g, cap, h⟩

theorem grown_ahead {w w1 : World} {o : Obj} {row : Option Nat} (h : (w.drew.alloc o).grownBy w1 row) : w.grownBy w1 row :=
  ⟨h.os, h.tape, h.output, by have := h.size; simp at this; omega, fun k hk hr => (h.block k (by simp; omega) hr).trans (heap_alloc_old w.drew _ hk)⟩
theorem grown_keeps {w w1 : World} {b : Nat} {s : Value} {t : TypeId} {row : Option Nat} (h : w.grownBy w1 row) (hb : w.heap[b]? = some (.cells #[s] t (0, 0))) (hne : row ≠ some b) :
    w1.heap[b]? = some (.cells #[s] t (0, 0)) := (h.block b (lt_of_block hb) (fun e => hne e.symm)).trans hb
theorem new_cell (w : World) (x : Value) (t : TypeId) : ∀ j u, [x][j]? = some u → (w.alloc (.cells #[x] t)).cell? ((⟨w.heap.size, 0, none⟩ : Addr).add j) = some u := by
  intro j u hj
  match j, hj with
  | 0, hj => simp at hj; subst hj; simp [Addr.add]

/-! ### A number's bytes -/
theorem num8_step (n p : Int) (h0 : 0 ≤ p) (h7 : p ≤ 7) : (num8 n).take (7 - (p - 1)).toNat = (num8 n).take (7 - p).toNat ++ [byteAt n p.toNat] := by
  have : p = 0 ∨ p = 1 ∨ p = 2 ∨ p = 3 ∨ p = 4 ∨ p = 5 ∨ p = 6 ∨ p = 7 := by omega
  rcases this with rfl | rfl | rfl | rfl | rfl | rfl | rfl | rfl <;> rfl
theorem byte_step (n p : Int) (h0 : 0 ≤ p) (h7 : p ≤ 7) : IntKind.u8.wrap (n / 2 ^ (8 * p).toNat) = ((byteAt n p.toNat).toNat : Int) := by
  show n / 2 ^ (8 * p).toNat % 256 = _
  rw [byteAt_toNat]
  have : p = 0 ∨ p = 1 ∨ p = 2 ∨ p = 3 ∨ p = 4 ∨ p = 5 ∨ p = 6 ∨ p = 7 := by omega
  rcases this with rfl | rfl | rfl | rfl | rfl | rfl | rfl | rfl <;> rfl

/-- Where Num stands, p + 1 bytes ahead of its end. -/
def NumAt (w : World) (b : Nat) (F : Nat → Prop) (l : List UInt8) (n p : Int) (wr : World) : Prop :=
  ∃ s, WrAt wr b s (l ++ (num8 n).take (7 - p).toNat) ∧ Chg F w wr ∧ (∀ k, (k = b ∨ s.ownBlock = some k) → F k ∨ w.heap.size ≤ k)

theorem num_on {w wr w1 : World} {b : Nat} {s v' : Value} {F : Nat → Prop} {l m : List UInt8} {n p x : Int} (hat : WrAt wr b s m) (hc : Chg F w wr) (hF : ∀ k, (k = b ∨ s.ownBlock = some k) → F k ∨ w.heap.size ≤ k)
    (hm : l ++ (num8 n).take (7 - (p - 1)).toNat = m ++ [byteAt n p.toNat]) (hx : x = ((byteAt n p.toNat).toNat : Int)) (hgr : wr.grownBy w1 s.ownBlock) (hfr : ∀ k, v'.ownBlock = some k → s.ownBlock = some k ∨ wr.heap.size ≤ k)
    (hown : w1.ownsRow 0 5 1 v' (m.length + 1) (cells8 m ++ [.int .u8 x])) : NumAt w b F l n (p - 1) (w1.setCell ⟨b, 0, none⟩ v') := by
  subst hx
  obtain ⟨h1, h2, h3⟩ := wr_stored (more := [byteAt n p.toNat]) hat hown hgr hfr
  refine ⟨v', by rw [hm]; exact h1, hc.trans h2 (fun i hi hf => (hF i hf).elim id (fun h => by omega)), fun k hk => ?_⟩
  rcases h3 k hk with h | h
  · exact hF k h
  · exact Or.inr (Nat.le_trans hc.size h)

set_option maxHeartbeats 1600000 in
set_option maxRecDepth 100000 in
theorem wr_num_at {w : World} {b : Nat} {s : Value} {l : List UInt8} {F : Nat → Prop} (n : Int) (h : WrAt w b s l) (hF : ∀ k, F k ↔ (k = b ∨ s.ownBlock = some k)) (hn : Word n) (hl : l.length ≤ 1073741824) :
    Calls Try.prog 12 #[.pointer (some ⟨b, 0, none⟩), .int .u64 n] w fun e w' => e = .returned (.tuple #[]) ∧ NumAt w b F l n (-1) w' := by
  obtain ⟨i0, hi, hz0, hz1, hz2⟩ := info_parts Try.info8
  have hstart : NumAt w b F l n 7 w := ⟨s, by simpa using h, Chg.refl _ _, fun k hk => Or.inl ((hF k).2 hk)⟩
  obtain ⟨hn0, hn1⟩ := hn
  go_enter Try.func12, Try.ntmps12
  go_wp2
  go_loopw [4] (fun place wr => ∃ p : Int, -1 ≤ p ∧ p ≤ 7 ∧ place = .int .i64 p ∧ NumAt w b F l n p wr) (fun place _ => (intOf place + 1).toNat)
  case atStart => exact ⟨7, by omega, by omega, rfl, hstart⟩
  case round =>
    obtain ⟨p, hp0, hp7, rfl, hat⟩ := hrel
    by_cases hp : 0 ≤ p
    · obtain ⟨s', hat', hchg, hF'⟩ := hat
      have hat2 := hat'
      obtain ⟨hb, hs, hne⟩ := hat2
      have hlt : b < wr.heap.size := lt_of_block hb
      have hc : wr.cell? ⟨b, 0, none⟩ = some s' := cell_of_one hb
      have hlen : (l ++ (num8 n).take (7 - p).toNat).length ≤ 1073741832 := by
        rw [List.length_append]
        have := List.length_take_le' (7 - p).toNat (num8 n)
        rw [num8_length] at this
        omega
      have HB := Lib.hid (byte_step n p hp hp7)
      have HN : Hid (l ++ (num8 n).take (7 - (p - 1)).toNat = (l ++ (num8 n).take (7 - p).toNat) ++ [byteAt n p.toNat]) := Lib.hid (by rw [num8_step n p hp hp7, List.append_assoc])
      have HA := Lib.hid hat'
      have HC := Lib.hid hchg
      have HF := Lib.hid hF'
      have HS := Lib.hid hs
      have HE := Lib.hid hne
      clear hat' hb hs hne hchg hF' hF hstart h
      generalize l ++ (num8 n).take (7 - p).toNat = m at *
      have c1 : m.length + 1 ≤ maxLen := by unfold maxLen; omega
      have c2 : (m.length + 1) * 1 ≤ 140737488355328 := by omega
      have g0 : 0 ≤ 8 * p := by omega
      have g1 : 8 * p ≤ 64 := by omega
      have gm : 0 ≤ p - 1 + 1 := by omega
      go_wp2
      have g2 : IntKind.i64.wrap (8 * p) = 8 * p := IntWalk.i64_in _ (by omega)
      go_region_law ((refine step_append_here rfl (.tmp 13) (.tmp 19) 25 rfl 0 5 i0 (.int .u8 0) 1 1 Try.underlying25 hi hz0 hz1 hz2 rfl (by decide) s' m.length (cells8 m) rfl (World.ownsRow.alloc (w := wr.drew) HS.out _) ⟨wr.heap.size, 0, none⟩ 1 1 [.int .u8 (IntKind.u8.wrap (n / 2 ^ (8 * p).toNat))] rfl rfl (new_cell wr.drew _ _) (by intro u hu; simp at hu; subst hu; rfl) c1 c2 (Nat.zero_le _) ?_; intro v' w1 hown hgr hfr; obtain ⟨g, cap, rfl⟩ := own_shape hown (Nat.succ_ne_zero _); have hb1 := grown_keeps (grown_ahead hgr) HA.out.1 HE.out; have hc1 := cell_of_one hb1; have hf1 := free_of_one hb1; have HO := Lib.hid hown; have HG := Lib.hid hgr; have HR := Lib.hid hfr; have HB1 := Lib.hid hb1; clear hown hgr hfr hb1))
      all_goals
        clear g2
        go_wp2
        go_roundw
        case rel => exact ⟨p - 1, by omega, by omega, rfl, num_on HA.out HC.out HF.out HN.out HB.out (grown_ahead HG.out) (fun k hk => (HR.out k hk).imp id (fun h => by simp at h; omega)) HO.out⟩
        case measure => simp [intOf]; omega
    · obtain rfl : p = -1 := by omega
      clear hstart
      go_wp2
      go_end0
      exact ⟨rfl, hat⟩
end Go.Proofs.Ytcnnfmooigfeiaa
