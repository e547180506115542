/- The document's own rows of who did what: what each call tells, and that it turns its own row alone. Conditions: the rows lie in memory and have at most a million things. -/
import Derived.Test.YtdhnpbfoeohhmaaRising
import Derived.Test.YtdhnpbfoeohhmaaRowN
import Derived.WalkKit
import Derived.WalkSpells
import Derived.StillTactics
import Derived.StillTailTactics
import Derived.Outline
import Derived.LoopTactic
import Derived.RegionTactic
import Derived.Deep.QuietTactic
import Derived.BigQuiet
import Derived.IntWalk
import Derived.WalkSmall
namespace Go.Proofs.Ytdhnpbfoeohhmaa
open Go.RowKit Go.WideShapes

theorem int_info : (Try.prog.info? 3).map (fun i => (i.zero, i.size, i.bytes)) = some (some (.int .i64 0), 1, 8) := by kernel_rfl
theorem pair_info : (Try.prog.info? 73).map (fun i => (i.zero, i.size, i.bytes)) = some (some (.agg #[.int .i64 0, .int .i64 0]), 2, 16) := by kernel_rfl

set_option maxRecDepth 100000 in
set_option maxHeartbeats 4000000 in
/-- Two rows are held against each other. -/
theorem same_any {w : World} {A B : Option Addr} {cap capb : Nat} {l m : List Int} (hl : IntsIn w A l) (hm : IntsIn w B m) (hll : l.length ≤ 1000000) (hml : m.length ≤ 1000000) :
    Calls Try.prog 20 #[.slice A l.length cap, .slice B m.length capb] w fun e w' => e = .returned (.bool (decide (l = m))) ∧ ∃ q, w' = w.drewN q := by
  obtain ⟨n, hn⟩ : ∃ k, l.length = k := ⟨_, rfl⟩
  obtain ⟨n2, hn2⟩ : ∃ k, m.length = k := ⟨_, rfl⟩
  rw [hn] at hll ⊢; rw [hn2] at hml ⊢
  have HN := Lib.hid hn; have HN2 := Lib.hid hn2; have HL := Lib.hid hl; have HM := Lib.hid hm
  clear hl hm hn hn2
  by_cases hne : n = n2
  · subst hne
    go_enter Try.func20, Try.ntmps20
    go_wp2_with fail
    go_loopw [5] (fun i wr => ∃ k q : Nat, k ≤ n ∧ i = .int .i64 k ∧ wr = w.drewN q ∧ ∀ j (h : j < l.length) (h2 : j < m.length), j < k → l[j] = m[j]) (fun i _ => n - (intOf i).toNat)
    case atStart => exact ⟨0, 0, by omega, rfl, rfl, fun j _ _ hj => by omega⟩
    case round =>
      obtain ⟨k, q, hk, rfl, rfl, heq⟩ := hrel
      have HEQ := Lib.hid heq
      clear heq
      by_cases hk' : k < n
      · obtain ⟨b, off, rfl, hb, hc⟩ := HL.out.at (i := k) (by rw [HN.out]; exact hk')
        obtain ⟨b2, off2, rfl, hb2, hc2⟩ := HM.out.at (i := k) (by rw [HN2.out]; exact hk')
        obtain ⟨x, hx⟩ : ∃ x, l[k]'(by rw [HN.out]; exact hk') = x := ⟨_, rfl⟩
        obtain ⟨y, hy⟩ : ∃ y, m[k]'(by rw [HN2.out]; exact hk') = y := ⟨_, rfl⟩
        rw [hx] at hc; rw [hy] at hc2
        obtain ⟨eqb, heqb⟩ : ∃ p, (x == y) = p := ⟨_, rfl⟩
        have HX := Lib.hid hx; have HY := Lib.hid hy; have HB := Lib.hid heqb
        clear hx hy
        go_wp2_with fail
        go_quiet (fail)
        rcases eqb with _ | _
        · go_wp2_with fail
          go_ret
          refine ⟨?_, q + nq, World.drewN_drewN _ _ _⟩
          have hxy : x ≠ y := by simpa using HB.out
          have hlm : l ≠ m := fun e => hxy (by rw [← HX.out, ← HY.out]; simp only [e])
          rw [decide_eq_false hlm]; rfl
        · have h2 : ∀ j (h : j < l.length) (h2 : j < m.length), j < k + 1 → l[j] = m[j] := fun j h h2 hj => by
            by_cases e : j = k
            · subst e; rw [HX.out, HY.out]; simpa using HB.out
            · exact HEQ.out j h h2 (by omega)
          have H2 := Lib.hid h2
          clear h2
          go_wp2_with fail
          go_roundw
          case rel => exact ⟨k + 1, _, hk', by go_num, rfl, H2.out⟩
          case measure => simp [intOf]; omega
      · obtain rfl : k = n := by omega
        clear hk hk' hll hml
        go_wp2_with fail
        go_ret
        refine ⟨?_, q, rfl⟩
        have hlm : l = m := List.ext_getElem (by rw [HN.out, HN2.out]) fun j h1 h2 => HEQ.out j h1 h2 (by rw [← HN.out]; exact h1)
        rw [decide_eq_true hlm]; rfl
  · have hne' : ((n : Int) == (n2 : Int)) = false := by rw [beq_eq_false_iff_ne]; omega
    have hlm : l ≠ m := fun e => hne (by rw [← HN.out, ← HN2.out, e])
    rw [decide_eq_false hlm]
    clear hlm hne
    go_enter Try.func20, Try.ntmps20
    go_wp2_with fail
    go_ret
    exact ⟨rfl, 0, rfl⟩

/-- One more int behind a row of the call's own. -/
theorem wpList_pushI {w : World} {ops : Array Oper} {rest : List Oper} {o : Oper} {a : Act} {Q : Exit → Act → World → Prop} (hgd : o.guard = none) (s x : Operand)
    (ho : o.op = .call { callee := .builtin .append, args := #[s, x], argTypes := #[22, 22] }) (B : Nat) (v : Value) (l : List Int) (n : Int) (g : Nat) (hs : a.eval s = v) (hx : a.eval x = .slice (some ⟨g, 0, none⟩) 1 1) (hown : w.ownsRow B 3 1 v l.length (cellsI l))
    (hc : w.cell? ⟨g, 0, none⟩ = some (.int .i64 n)) (hl : l.length ≤ 10000000) (hB : B ≤ w.heap.size)
    (h : ∀ v' w', w'.ownsRow B 3 1 v' (l ++ [n]).length (cellsI (l ++ [n])) → Below B w w' → wpList Try.prog ops Q rest (a.put o.dst v') w') : wpList Try.prog ops Q (o :: rest) a w := by
  obtain ⟨i0, hi, hz0, hz1, hz2⟩ := info_parts int_info
  refine wpList_append_here hgd s x 22 ho B 3 i0 (.int .i64 0) 1 8 Try.underlying22 hi hz0 hz1 hz2 rfl (by decide) v l.length (cellsI l) hs hown ⟨g, 0, none⟩ 1 1 [.int .i64 n] hx rfl (fun j u hj => ?_) (by intro u hu; simp at hu; subst hu; rfl) (by unfold maxLen; omega) (by omega) hB fun v' w' h1 h2 _ => ?_
  · match j, hj with
    | 0, hj => simp at hj; subst hj; simpa [Addr.add] using hc
  · refine h v' w' ?_ ((Below.refl B w).grown h2 hB fun k hk => (hown.lt k hk).1)
    rw [cellsI_append, List.length_append]
    exact h1
theorem new_cellI (w : World) (n : Int) (t : TypeId) : (w.alloc (.cells #[.int .i64 n] t)).cell? ⟨w.heap.size, 0, none⟩ = some (.int .i64 n) := by simp

/-- Where Rising stands: what is behind it, and what is still to come. -/
def risAt (inn : Bool) (rest : List Int) (n : Int) : List Int := if inn then rest else rising rest n
theorem ris_in (x : Int) (r : List Int) (n : Int) : risAt true (x :: r) n = x :: risAt true r n := rfl
theorem ris_lt {x n : Int} (r : List Int) (h : n < x) : risAt false (x :: r) n = n :: x :: risAt true r n := by simp [risAt, rising, h]
theorem ris_eq {x n : Int} (r : List Int) (h : n = x) : risAt false (x :: r) n = x :: risAt true r n := by subst h; simp [risAt, rising]
theorem ris_gt {x n : Int} (r : List Int) (h : x < n) : risAt false (x :: r) n = x :: risAt false r n := by
  have h1 : ¬ n < x := by omega
  have h2 : ¬ n = x := by omega
  simp [risAt, rising, h1, h2]

set_option maxRecDepth 100000 in
set_option maxHeartbeats 4000000 in
/-- A rising row with one more, in new memory. -/
theorem rris_any {w : World} {A : Option Addr} {cap : Nat} {l : List Int} (n : Int) (hl : IntsIn w A l) (hll : l.length ≤ 1000000) :
    Calls Try.prog 33 #[.slice A l.length cap, .int .i64 n] w fun e w' => ∃ x, e = .returned x ∧ w'.ownsRow w.heap.size 3 1 x (rising l n).length (cellsI (rising l n)) ∧ Below w.heap.size w w' := by
  obtain ⟨i0, hi, hz0, hz1, hz2⟩ := info_parts int_info
  obtain ⟨nl, hn⟩ : ∃ k, l.length = k := ⟨_, rfl⟩
  rw [hn] at hll ⊢
  have HN := Lib.hid hn; have HL := Lib.hid hl
  clear hl hn
  go_enter Try.func33, Try.ntmps33
  go_wp2_with fail
  go_loopw [5, 6, 7] (fun v sb i wr => ∃ (k : Nat) (out : List Int) (inn : Bool), k ≤ nl ∧ out.length ≤ k + inn.toNat ∧ i = .int .i64 k ∧ sb = .bool inn ∧ wr.ownsRow w.heap.size 3 1 v out.length (cellsI out) ∧ Below w.heap.size w wr ∧ out ++ risAt inn (l.drop k) n = rising l n) (fun _ _ i _ => nl - (intOf i).toNat)
  case atStart => exact ⟨0, [], false, by omega, by simp, rfl, rfl, World.ownsRow_nil _ _ _ _, Below.refl _ _, rfl⟩
  case round =>
    obtain ⟨k, out, inn, hk, hout, rfl, rfl, hown, hbl, heq⟩ := hrel
    have HO := Lib.hid hown; have HB := Lib.hid hbl; have HE := Lib.hid heq
    have hout2 : out.length ≤ k + 1 := by have : inn.toNat ≤ 1 := Bool.toNat_le inn; omega
    obtain ⟨As, cs, rfl⟩ := row_form hown
    clear hown hbl heq
    by_cases hk' : k < nl
    · obtain ⟨b, off, rfl, hb, hc⟩ := HL.out.at (i := k) (by rw [HN.out]; exact hk')
      have hdrop : l.drop k = l[k]'(by rw [HN.out]; exact hk') :: l.drop (k + 1) := List.drop_eq_getElem_cons _
      obtain ⟨x, hx⟩ : ∃ x, l[k]'(by rw [HN.out]; exact hk') = x := ⟨_, rfl⟩
      rw [hx] at hc hdrop
      have hcw := (HB.out.cell (p := ⟨b, off + k, none⟩) hb).trans hc
      rw [hdrop] at HE
      obtain ⟨lt, hlt⟩ : ∃ p, decide (n < x) = p := ⟨_, rfl⟩
      obtain ⟨eq, heq⟩ : ∃ p, (n == x) = p := ⟨_, rfl⟩
      have HLT := Lib.hid hlt; have HEQ := Lib.hid heq
      have hsz := HB.out.size
      have hsz' : w.heap.size ≤ (wr.alloc (.cells #[.int .i64 x] 3)).heap.size := by simp; omega
      clear hdrop hx
      by_cases hins : inn = false ∧ lt = true
      · obtain ⟨rfl, rfl⟩ := hins
        have hlt' : n < x := by simpa using HLT.out
        have HE2 := Lib.hid (ris_lt (l.drop (k + 1)) hlt')
        clear hlt'
        have hb' : b < wr.heap.size := by omega
        go_wp2_with (first
          | (at_builtin; refine wpList_pushI rfl (.tmp 24) (.tmp 26) rfl w.heap.size (.slice As out.length cs) out n wr.heap.size rfl rfl (HO.out.alloc _) (new_cellI wr n _) (by omega) (by simp; omega) ?_; intro v1 w1 hown1 hbl1; have hc1 := (hbl1.cell (p := ⟨b, off + k, none⟩) hb).trans ((HB.out.alloc hsz (.cells #[.int .i64 n] 3)).cell (p := ⟨b, off + k, none⟩) hb) |>.trans hc; have H1 := Lib.hid hown1; have HB1 := Lib.hid ((HB.out.alloc hsz (.cells #[.int .i64 n] 3)).trans hbl1); clear hown1 hbl1)
          | (at_builtin; refine wpList_pushI rfl (.tmp 37) (.tmp 42) rfl w.heap.size _ (out ++ [n]) x _ rfl rfl (H1.out.alloc _) (new_cellI _ x _) (by simp; omega) (by have := HB1.out.size; simp; omega) ?_; intro v2 w2 hown2 hbl2; have H2 := Lib.hid hown2; have HB2 := Lib.hid ((HB1.out.alloc HB1.out.size (.cells #[.int .i64 x] 3)).trans hbl2); clear hown2 hbl2))
        go_roundw
        case rel => exact ⟨k + 1, out ++ [n] ++ [x], true, hk', by simp at hout ⊢; omega, by go_num, rfl, H2.out, HB2.out, by have := HE.out; rw [HE2.out] at this; simpa using this⟩
        case measure => simp [intOf]; omega
      · have hstep : ∃ inn' : Bool, (inn || eq) = inn' ∧ risAt inn (x :: l.drop (k + 1)) n = x :: risAt inn' (l.drop (k + 1)) n := by
          rcases inn with _ | _
          · rcases eq with _ | _
            · refine ⟨false, rfl, ris_gt _ ?_⟩
              have h1 : ¬ n < x := fun h => hins ⟨rfl, by rw [← HLT.out]; simpa using h⟩
              have h2 : n ≠ x := by simpa using HEQ.out
              omega
            · exact ⟨true, rfl, ris_eq _ (by simpa using HEQ.out)⟩
          · exact ⟨true, rfl, rfl⟩
        obtain ⟨inn', hi1, hi2⟩ := hstep
        have HI2 := Lib.hid hi2
        clear hi2
        have hgo : (!inn && lt) = false := by
          rcases inn with _ | _ <;> rcases lt with _ | _ <;> simp at hins ⊢
        have hb' : b < wr.heap.size := by omega
        clear hins
        rcases inn with _ | _
        all_goals (rcases lt with _ | _)
        all_goals (rcases eq with _ | _)
        all_goals (first | (exfalso; simp at hgo; done) | skip)
        all_goals (obtain rfl : _ = inn' := hi1)
        all_goals
          go_wp2_with (at_builtin; refine wpList_pushI rfl (.tmp 37) (.tmp 42) rfl w.heap.size (.slice As out.length cs) out x wr.heap.size rfl rfl (HO.out.alloc _) (new_cellI wr x _) (by omega) (by simp; omega) ?_; intro v1 w1 hown1 hbl1; have H1 := Lib.hid hown1; have HB1 := Lib.hid ((HB.out.alloc hsz (.cells #[.int .i64 x] 3)).trans hbl1); clear hown1 hbl1)
          go_roundw
          case rel => exact ⟨k + 1, out ++ [x], _, hk', by simp at hout ⊢; omega, by go_num, rfl, H1.out, HB1.out, by have := HE.out; rw [HI2.out] at this; simpa using this⟩
          case measure => simp [intOf]; omega
    · obtain rfl : k = nl := by omega
      have hdrop : l.drop k = [] := List.drop_eq_nil_of_le (by rw [HN.out]; exact Nat.le_refl _)
      rw [hdrop] at HE
      have hsz := HB.out.size
      clear hdrop hk' hk
      rcases inn with _ | _
      · go_wp2_with (at_builtin; refine wpList_pushI rfl (.tmp 46) (.tmp 48) rfl w.heap.size (.slice As out.length cs) out n wr.heap.size rfl rfl (HO.out.alloc _) (new_cellI wr n _) (by omega) (by simp; omega) ?_; intro v1 w1 hown1 hbl1; have H1 := Lib.hid hown1; have HB1 := Lib.hid ((HB.out.alloc hsz (.cells #[.int .i64 n] 3)).trans hbl1); clear hown1 hbl1)
        go_ret
        have e : out ++ [n] = rising l n := HE.out
        exact ⟨_, rfl, by rw [← e]; exact H1.out, HB1.out⟩
      · go_wp2_with fail
        go_ret
        have e : out = rising l n := by have := HE.out; simpa [risAt] using this
        exact ⟨_, rfl, by rw [← e]; exact HO.out, HB.out⟩
end Go.Proofs.Ytdhnpbfoeohhmaa
