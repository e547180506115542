/- The document's own vault: what each call tells, and what it leaves. Conditions: it lies in memory and has at most a million things. -/
import Derived.Test.YtdhnpbfoeohhmaaSealApi
import Derived.Test.YtdhnpbfoeohhmaaPairsPut
import Derived.Deep.RegionLaw
import Derived.Deep.RegionWith
namespace Go.Proofs.Ytdhnpbfoeohhmaa
open Go.RowKit Go.WideShapes

theorem sealed_info : (Try.prog.info? 67).map (fun i => (i.zero, i.size, i.bytes)) = some (some (.agg #[.int .i64 0, .string ByteArray.empty]), 2, 24) := by kernel_rfl
/-- The cells of the ciphers. -/
def cellsT (T : Texts) : List Value := T.flatMap fun p => [.int .i64 p.1, .string ⟨p.2.toArray⟩]
theorem cellsT_length (T : Texts) : (cellsT T).length = T.length * 2 := by
  induction T with
  | nil => rfl
  | cons p T ih => simp only [cellsT, List.flatMap_cons, List.length_append, List.length_cons, List.length_nil] at ih ⊢; omega
theorem cellsT_append (a b : Texts) : cellsT (a ++ b) = cellsT a ++ cellsT b := by simp [cellsT]
theorem cellsT_at {T : Texts} {j : Nat} (h : j < T.length) : (cellsT T)[j * 2]? = some (.int .i64 T[j].1) ∧ (cellsT T)[j * 2 + 1]? = some (.string ⟨T[j].2.toArray⟩) := by
  have hx : cellsT T = cellsT (T.take j) ++ ([.int .i64 T[j].1, .string ⟨T[j].2.toArray⟩] ++ cellsT (T.drop (j + 1))) := by
    conv => lhs; rw [← List.take_append_drop j T, List.drop_eq_getElem_cons h, cellsT_append]
    rfl
  have hl : (cellsT (T.take j)).length = j * 2 := by rw [cellsT_length, List.length_take]; omega
  rw [hx]
  constructor
  · rw [List.getElem?_append_right (by omega), hl, Nat.sub_self]; rfl
  · rw [List.getElem?_append_right (by omega), hl, Nat.add_sub_cancel_left]; rfl
theorem cellsT_one (T : Texts) : ∀ u ∈ cellsT T, u.oneCell' = true := by
  intro u hu
  simp only [cellsT, List.mem_flatMap] at hu
  obtain ⟨p, _, hu⟩ := hu
  simp only [List.mem_cons, List.not_mem_nil, or_false] at hu
  rcases hu with rfl | rfl <;> rfl

/-- A vault in block b. -/
def VaultAt (b : Nat) (n : Int) (s1 s2 : Value) (T : Texts) (L : List (Int × Int)) : HP :=
  star (PairsAt b #[.int .i64 n, s1, s2] 46 s2 L) (RowN 67 2 s1 T.length (cellsT T))
instance VaultAt.stable (b : Nat) (n : Int) (s1 s2 : Value) (T : Texts) (L : List (Int × Int)) : Stable (VaultAt b n s1 s2 T L) := by unfold VaultAt; infer_instance
def IsVault (v : Value) (n : Int) (T : Texts) (L : List (Int × Int)) : HP := fun w F => ∃ b s1 s2, v = .pointer (some ⟨b, 0, none⟩) ∧ VaultAt b n s1 s2 T L w F
instance IsVault.stable (v : Value) (n : Int) (T : Texts) (L : List (Int × Int)) : Stable (IsVault v n T L) := by unfold IsVault; infer_instance
theorem IsVault.made (w : World) (n : Int) : IsVault (.pointer (some ⟨w.heap.size, 0, none⟩)) n [] [] (w.alloc (.cells #[.int .i64 n, .slice none 0 0, .slice none 0 0] 46)) (fun k => k = w.heap.size) :=
  ⟨w.heap.size, .slice none 0 0, .slice none 0 0, rfl, fun k => k = w.heap.size, fun _ => False, ⟨fun k => k = w.heap.size, fun _ => False, Blk.made w _ _, RowN.none _ _ _, fun _ _ h => h, fun k => by simp⟩, RowN.none _ _ _, fun _ _ h => h, fun k => by simp⟩
/-- What is read of it. -/
theorem VaultAt.facts {F0 : Nat → Prop} {w0 w : World} {b : Nat} {n : Int} {s1 s2 : Value} {T : Texts} {L : List (Int × Int)} {R : HP} (h : Turns F0 w0 w (star (VaultAt b n s1 s2 T L) R)) :
    b < w.heap.size ∧ w.cell? ⟨b, 0, none⟩ = some (.int .i64 n) ∧ w.cell? ⟨b, 1, none⟩ = some s1 ∧ w.cell? ⟨b, 2, none⟩ = some s2 ∧ w.frozen? ⟨b, 1, none⟩ = false ∧ w.ownsRow 0 67 2 s1 T.length (cellsT T) ∧ w.ownsRow 0 73 2 s2 L.length (cellsP L) := by
  have h1 := h.assoc.assoc
  obtain ⟨_, h2, h3, h4⟩ := Turns.blk h1
  exact ⟨h2, h3 0 _ rfl, h3 1 _ rfl, h3 2 _ rfl, h4 1, (h.assoc.swap).rowN, (h1.swap).rowN⟩

section
variable {w : World} {b : Nat} {n : Int} {s1 s2 : Value} {T : Texts} {L : List (Int × Int)} {F : Nat → Prop}
set_option maxRecDepth 100000 in
set_option maxHeartbeats 4000000 in
theorem vis_any (c : Int) (hc : w.cell? ⟨b, 1, none⟩ = some s1) (hs : w.ownsRow 0 67 2 s1 T.length (cellsT T)) :
    Calls Try.prog 26 #[.pointer (some ⟨b, 0, none⟩), .int .i64 c] w fun e w' => e = .returned (.bool (isC T c)) ∧ w' = w := by
  obtain ⟨As, cs, rfl⟩ := rowN_form hs
  clear hs
  unfold isC
  obtain ⟨nt, hn⟩ : ∃ k, T.length = k := ⟨_, rfl⟩
  rw [hn] at hc ⊢
  clear hn
  rcases Int.lt_or_le c 1 with hlt | hge
  · have e : decide (1 ≤ c ∧ c ≤ (nt : Int)) = false := decide_eq_false (by omega)
    have b1 : decide (1 ≤ c) = false := decide_eq_false (by omega)
    rw [e]
    clear hlt e
    go_enter Try.func26, Try.ntmps26
    go_wp2_with fail
    go_ret
    exact ⟨rfl, rfl⟩
  · have b1 : decide (1 ≤ c) = true := decide_eq_true hge
    obtain ⟨q, hq⟩ : ∃ q, decide (c ≤ (nt : Int)) = q := ⟨_, rfl⟩
    have e : decide (1 ≤ c ∧ c ≤ (nt : Int)) = q := by rw [← hq, decide_eq_decide]; exact ⟨fun h => h.2, fun h => ⟨hge, h⟩⟩
    rw [e]
    clear hge e
    go_enter Try.func26, Try.ntmps26
    go_wp2_with fail
    go_ret
    exact ⟨rfl, rfl⟩

set_option maxRecDepth 100000 in
set_option maxHeartbeats 4000000 in
theorem vlen_any (hc : w.cell? ⟨b, 1, none⟩ = some s1) (hs : w.ownsRow 0 67 2 s1 T.length (cellsT T)) :
    Calls Try.prog 22 #[.pointer (some ⟨b, 0, none⟩)] w fun e w' => e = .returned (.int .i64 T.length) ∧ w' = w := by
  obtain ⟨As, cs, rfl⟩ := rowN_form hs
  clear hs
  go_enter Try.func22, Try.ntmps22
  go_wp2_with fail
  go_ret
  exact ⟨rfl, rfl⟩

set_option maxRecDepth 100000 in
set_option maxHeartbeats 4000000 in
theorem vshares_any (c : Int) (hb : b < w.heap.size) (hc1 : w.cell? ⟨b, 1, none⟩ = some s1) (hc2 : w.cell? ⟨b, 2, none⟩ = some s2) (hs : w.ownsRow 0 67 2 s1 T.length (cellsT T)) (hp : w.ownsRow 0 73 2 s2 L.length (cellsP L)) (hL : L.length ≤ 1000000) (ho : OnlyC T L) :
    Calls Try.prog 21 #[.pointer (some ⟨b, 0, none⟩), .int .i64 c] w fun e w' => ∃ x, e = .returned x ∧ w'.ownsRow w.heap.size 3 1 x (allOf L c).length (cellsI (allOf L c)) ∧ Below w.heap.size w w' := by
  have K := Lib.hid (vis_any c hc1 hs)
  have K2 := Lib.hid (rall_any c hc2 hb hp hL)
  obtain ⟨q, hq⟩ : ∃ q, isC T c = q := ⟨_, rfl⟩
  rw [hq] at K
  have HN : Hid (q = false → allOf L c = []) := Lib.hid fun h => ho.none (by rw [hq, h])
  clear hq ho hc1 hc2 hs hp
  go_enter Try.func21, Try.ntmps21
  go_wp2_with fail
  refine K.out.mono ?_
  rintro e w2 ⟨rfl, rfl⟩
  clear K
  rcases q with _ | _
  · go_wp2_with fail
    go_ret
    exact ⟨_, rfl, by rw [HN.out (by first | rfl | trivial)]; exact World.ownsRow_nil _ _ _ _, Below.refl _ _⟩
  · go_wp2_with fail
    refine K2.out.mono ?_
    rintro e w3 ⟨x, rfl, h1, h2⟩
    have H1 := Lib.hid h1; have H2 := Lib.hid h2
    clear h1 h2 K2
    go_wp2_with fail
    go_ret
    exact ⟨_, rfl, H1.out, H2.out⟩
end
end Go.Proofs.Ytdhnpbfoeohhmaa
