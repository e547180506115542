/- What package hold's calls do, as plain facts, and what is asked of them (the statements of their contracts, over any layout in memory). Conditions: as each says. -/
import Derived.Test.YtnicfhafepiknaaAcctApi
namespace Go.Proofs.Ytnicfhafepiknaa
open Go.RowKit Go.WideShapes

/-- What is held of each client. -/
def hOf (H : List Int) (c : Int) : Int := if 0 ≤ c ∧ c < H.length then H.getD c.toNat 0 else 0
def hSet (H : List Int) (c v : Int) : List Int := H.set c.toNat v
def holdN (X : Accts) (H : List Int) (c fee : Int) : Int := if 18446744073709551616 ≤ hOf H c + min fee (freeA X c 1) then 0 else min fee (freeA X c 1)
def holdX (X : Accts) (H : List Int) (c fee : Int) : Accts := if holdN X H c fee = 0 then X else takeX X c 1 (holdN X H c fee)
def holdH (X : Accts) (H : List Int) (c fee : Int) : List Int := if holdN X H c fee = 0 then H else hSet H c (hOf H c + holdN X H c fee)
def setlN (H : List Int) (g c fee : Int) : Int := if 18446744073709551616 ≤ g + min (hOf H c) fee then 0 else min (hOf H c) fee
def setlX (X : Accts) (H : List Int) (g c fee : Int) : Accts := if hOf H c = 0 then X else putX X c 1 (hOf H c - setlN H g c fee)
def setlH (X : Accts) (H : List Int) (g c fee : Int) : List Int := if hOf H c = 0 then H else hSet H c (if putE X c 1 (hOf H c - setlN H g c fee) = 0 then 0 else hOf H c - setlN H g c fee)
def forfN (H : List Int) (g c : Int) : Int := if 18446744073709551616 ≤ g + hOf H c then 0 else hOf H c
def forfH (H : List Int) (g c : Int) : List Int := if forfN H g c = 0 then H else hSet H c 0
structure GoodF (X : Accts) (H : List Int) (g : Int) : Prop where
  ga : GoodA X
  len : X.length ≤ 1000
  same : H.length = X.length
  gh : ∀ h ∈ H, U64 h
  gg : U64 g

theorem hOf_u64 {H : List Int} (h : ∀ x ∈ H, U64 x) (c : Int) : U64 (hOf H c) := by
  unfold hOf
  split
  · next hc =>
    have hlt : c.toNat < H.length := by omega
    rw [List.getD_eq_getElem?_getD, List.getElem?_eq_getElem hlt]
    exact h _ (List.getElem_mem hlt)
  · exact ⟨by decide, by decide⟩
theorem hOf_none {H : List Int} {c : Int} (h : ¬ (0 ≤ c ∧ c < H.length)) : hOf H c = 0 := if_neg h
theorem hOf_in {H : List Int} {c : Int} (h : hOf H c ≠ 0) : 0 ≤ c ∧ c < H.length := by
  by_cases hc : 0 ≤ c ∧ c < H.length
  · exact hc
  · exact absurd (hOf_none hc) h
theorem hOf_set {H : List Int} {c d v : Int} (hc : 0 ≤ c ∧ c < H.length) : hOf (hSet H c v) d = if d = c then v else hOf H d := by
  unfold hOf hSet
  rw [List.length_set]
  by_cases e : d = c
  · subst e
    rw [if_pos hc, if_pos rfl, List.getD_eq_getElem?_getD, List.getElem?_set_self (by omega)]
    rfl
  · rw [if_neg e]
    split
    · next hd =>
      rw [List.getD_eq_getElem?_getD, List.getD_eq_getElem?_getD, List.getElem?_set_ne (by omega)]
    · rfl
theorem hSet_good {H : List Int} (h : ∀ x ∈ H, U64 x) (c : Int) {v : Int} (hv : U64 v) : ∀ x ∈ hSet H c v, U64 x := fun x hx => by
  rcases List.mem_or_eq_of_mem_set hx with hx | rfl
  · exact h x hx
  · exact hv
theorem hSet_length (H : List Int) (c v : Int) : (hSet H c v).length = H.length := by simp [hSet]
theorem free_u64 {X : Accts} (h : GoodA X) (c s : Int) : U64 (freeA X c s) := by
  unfold freeA
  split
  · exact h.at c s
  · exact ⟨by decide, by decide⟩
section
variable {X : Accts} {H : List Int} {g : Int}
theorem holdN_le (h : GoodF X H g) {c fee : Int} (hf : U64 fee) : 0 ≤ holdN X H c fee ∧ holdN X H c fee ≤ fee ∧ holdN X H c fee ≤ freeA X c 1 ∧ hOf H c + holdN X H c fee < 18446744073709551616 := by
  have h1 := free_u64 h.ga c 1
  have h2 := hOf_u64 h.gh c
  unfold holdN
  split <;> omega
theorem holdN_ok (h : GoodF X H g) {c fee : Int} (hf : U64 fee) (hn : holdN X H c fee ≠ 0) : okE X c 1 = 0 ∧ 0 ≤ c ∧ c < H.length := by
  have h1 := holdN_le h (c := c) hf
  have h2 : freeA X c 1 ≠ 0 := by omega
  have h3 : okE X c 1 = 0 := by
    unfold freeA at h2
    by_cases e : okE X c 1 = 0
    · exact e
    · rw [if_neg e] at h2; exact absurd rfl h2
  have h4 := (okE_zero.1 h3).1
  have h5 := h.same
  exact ⟨h3, by omega, by omega⟩
theorem setlN_le (h : GoodF X H g) {c fee : Int} (hf : U64 fee) : 0 ≤ setlN H g c fee ∧ setlN H g c fee ≤ hOf H c ∧ setlN H g c fee ≤ fee ∧ g + setlN H g c fee < 18446744073709551616 := by
  have h2 := hOf_u64 h.gh c
  have h3 := h.gg
  unfold setlN
  split <;> omega
theorem forfN_le (h : GoodF X H g) {c : Int} : 0 ≤ forfN H g c ∧ forfN H g c ≤ hOf H c ∧ g + forfN H g c < 18446744073709551616 := by
  have h2 := hOf_u64 h.gh c
  have h3 := h.gg
  unfold forfN
  split <;> omega
theorem GoodF.hold (h : GoodF X H g) {c fee : Int} (hf : U64 fee) : GoodF (holdX X H c fee) (holdH X H c fee) g := by
  have h1 := holdN_le h (c := c) hf
  have h2 := hOf_u64 h.gh c
  unfold holdX holdH
  split
  · exact h
  · exact ⟨h.ga.take c 1 ⟨by omega, by omega⟩, by rw [takeX_length]; exact h.len, by rw [hSet_length, takeX_length]; exact h.same, hSet_good h.gh c ⟨by omega, by omega⟩, h.gg⟩
theorem GoodF.settle (h : GoodF X H g) {c fee : Int} (hf : U64 fee) : GoodF (setlX X H g c fee) (setlH X H g c fee) (g + setlN H g c fee) := by
  have h1 := setlN_le h (c := c) hf
  have h2 := hOf_u64 h.gh c
  have h3 := h.gg
  unfold setlX setlH
  split
  · exact ⟨h.ga, h.len, h.same, h.gh, by omega, by omega⟩
  · refine ⟨h.ga.put c 1 ⟨by omega, by omega⟩, by rw [putX_length]; exact h.len, by rw [hSet_length, putX_length]; exact h.same, hSet_good h.gh c ?_, by omega, by omega⟩
    split
    · exact ⟨by decide, by decide⟩
    · exact ⟨by omega, by omega⟩
theorem GoodF.forfeit (h : GoodF X H g) {c : Int} : GoodF X (forfH H g c) (g + forfN H g c) := by
  have h1 := forfN_le h (c := c)
  have h3 := h.gg
  unfold forfH
  split
  · exact ⟨h.ga, h.len, h.same, h.gh, by omega, by omega⟩
  · exact ⟨h.ga, h.len, by rw [hSet_length]; exact h.same, hSet_good h.gh c ⟨by decide, by decide⟩, by omega, by omega⟩
theorem GoodF.put (h : GoodF X H g) (c s : Int) {n : Int} (hn : U64 n) : GoodF (putX X c s n) H g :=
  ⟨h.ga.put c s hn, by rw [putX_length]; exact h.len, by rw [putX_length]; exact h.same, h.gh, h.gg⟩
theorem goodF_new {X : Accts} (h : GoodA X) (hl : X.length ≤ 1000) : GoodF X (List.replicate X.length 0) 0 :=
  ⟨h, hl, by simp, fun x hx => by rw [List.eq_of_mem_replicate hx]; exact ⟨by decide, by decide⟩, by decide, by decide⟩
end

/-- What is asked of package hold's calls. IsF v a H g: v points to fees over the accounts a, of which H is held and g was got. -/
structure HoldApi (T : AcctApi) where
  IsF : Value → Value → List Int → Int → HP
  stable : ∀ v a H g, Stable (IsF v a H g)
  ptr : ∀ {v a H g w F}, IsF v a H g w F → ∃ p, v = .pointer (some p)
  new : ∀ {w p X F}, T.IsA (.pointer (some p)) X w F → GoodA X → X.length ≤ 1000 →
    Calls Try.prog 22 #[.pointer (some p)] w fun e w' => ∃ v G, e = .returned v ∧ IsF v (.pointer (some p)) (List.replicate X.length 0) 0 w' G ∧ (∀ k, G k → w.heap.size ≤ k) ∧ Below w.heap.size w w'
  hold : ∀ {w v a X H g F} (c fee : Int), star (IsF v a H g) (T.IsA a X) w F → GoodF X H g → I64 c → U64 fee →
    Calls Try.prog 27 #[v, .int .i64 c, .int .u64 fee] w fun e w' => e = .returned (.int .u64 (holdN X H c fee)) ∧ Turns F w w' (star (IsF v a (holdH X H c fee) g) (T.IsA a (holdX X H c fee)))
  settle : ∀ {w v a X H g F} (c fee : Int), star (IsF v a H g) (T.IsA a X) w F → GoodF X H g → I64 c → U64 fee →
    Calls Try.prog 25 #[v, .int .i64 c, .int .u64 fee] w fun e w' => e = .returned (.int .u64 (setlN H g c fee)) ∧ Turns F w w' (star (IsF v a (setlH X H g c fee) (g + setlN H g c fee)) (T.IsA a (setlX X H g c fee)))
  forfeit : ∀ {w v a X H g F} (c : Int), star (IsF v a H g) (T.IsA a X) w F → GoodF X H g → I64 c →
    Calls Try.prog 26 #[v, .int .i64 c] w fun e w' => e = .returned (.int .u64 (forfN H g c)) ∧ Turns F w w' (star (IsF v a (forfH H g c) (g + forfN H g c)) (T.IsA a X))
  held : ∀ {w v a H g F} (c : Int), IsF v a H g w F → I64 c →
    Calls Try.prog 23 #[v, .int .i64 c] w fun e w' => e = .returned (.int .u64 (hOf H c)) ∧ Below w.heap.size w w'
  got : ∀ {w v a H g F}, IsF v a H g w F →
    Calls Try.prog 24 #[v] w fun e w' => e = .returned (.int .u64 g) ∧ Below w.heap.size w w'

instance fees_stable {T : AcctApi} (U : HoldApi T) (v a : Value) (H : List Int) (g : Int) : Stable (U.IsF v a H g) := U.stable v a H g
section
variable {T : AcctApi} {U : HoldApi T} {F0 : Nat → Prop} {w0 w w' : World} {v a : Value} {X : Accts} {H : List Int} {g : Int} {R : HP}
theorem st_fees (U : HoldApi T) {p : Addr} (h : Turns F0 w0 w (star (T.IsA (.pointer (some p)) X) R)) [hR : Stable R] (hg : GoodA X) (hl : X.length ≤ 1000) :
    Calls Try.prog 22 #[.pointer (some p)] w fun e w' => ∃ q, e = .returned (.pointer (some q)) ∧ Turns F0 w0 w' (star (U.IsF (.pointer (some q)) (.pointer (some p)) (List.replicate X.length 0) 0) (star (T.IsA (.pointer (some p)) X) R)) := by
  have h' := h
  obtain ⟨F, ⟨A, B, hp, _⟩, _⟩ := h
  refine (U.new hp hg hl).mono fun e w' ⟨v, G, he, ha, hG, hb⟩ => ?_
  obtain ⟨q, rfl⟩ := U.ptr ha
  exact ⟨q, he, h'.add hb ha hG⟩
theorem Turns.fhold (h : Turns F0 w0 w (star (U.IsF v a H g) (star (T.IsA a X) R))) [hR : Stable R] (c fee : Int) (hg : GoodF X H g) (hc : I64 c) (hf : U64 fee) :
    Calls Try.prog 27 #[v, .int .i64 c, .int .u64 fee] w fun e w' => e = .returned (.int .u64 (holdN X H c fee)) ∧ Turns F0 w0 w' (star (U.IsF v a (holdH X H c fee) g) (star (T.IsA a (holdX X H c fee)) R)) := by
  refine (h.assoc'.call (Q := fun e w' F => e = .returned (.int .u64 (holdN X H c fee)) ∧ star (U.IsF v a (holdH X H c fee) g) (T.IsA a (holdX X H c fee)) w' F) (fun F hp => (U.hold c fee hp hg hc hf).mono ?_)).mono ?_
  · rintro e w' ⟨he, F', h1, h2, h3⟩
    exact ⟨F', ⟨he, h1⟩, h2, h3⟩
  · rintro e w' hs
    obtain ⟨F, ⟨A', B', ⟨he, hp⟩, r⟩, r2⟩ := hs
    exact ⟨he, Turns.assoc ⟨F, ⟨A', B', hp, r⟩, r2⟩⟩
theorem Turns.fsettle (h : Turns F0 w0 w (star (U.IsF v a H g) (star (T.IsA a X) R))) [hR : Stable R] (c fee : Int) (hg : GoodF X H g) (hc : I64 c) (hf : U64 fee) :
    Calls Try.prog 25 #[v, .int .i64 c, .int .u64 fee] w fun e w' => e = .returned (.int .u64 (setlN H g c fee)) ∧ Turns F0 w0 w' (star (U.IsF v a (setlH X H g c fee) (g + setlN H g c fee)) (star (T.IsA a (setlX X H g c fee)) R)) := by
  refine (h.assoc'.call (Q := fun e w' F => e = .returned (.int .u64 (setlN H g c fee)) ∧ star (U.IsF v a (setlH X H g c fee) (g + setlN H g c fee)) (T.IsA a (setlX X H g c fee)) w' F) (fun F hp => (U.settle c fee hp hg hc hf).mono ?_)).mono ?_
  · rintro e w' ⟨he, F', h1, h2, h3⟩
    exact ⟨F', ⟨he, h1⟩, h2, h3⟩
  · rintro e w' hs
    obtain ⟨F, ⟨A', B', ⟨he, hp⟩, r⟩, r2⟩ := hs
    exact ⟨he, Turns.assoc ⟨F, ⟨A', B', hp, r⟩, r2⟩⟩
theorem Turns.fforfeit (h : Turns F0 w0 w (star (U.IsF v a H g) (star (T.IsA a X) R))) [hR : Stable R] (c : Int) (hg : GoodF X H g) (hc : I64 c) :
    Calls Try.prog 26 #[v, .int .i64 c] w fun e w' => e = .returned (.int .u64 (forfN H g c)) ∧ Turns F0 w0 w' (star (U.IsF v a (forfH H g c) (g + forfN H g c)) (star (T.IsA a X) R)) := by
  refine (h.assoc'.call (Q := fun e w' F => e = .returned (.int .u64 (forfN H g c)) ∧ star (U.IsF v a (forfH H g c) (g + forfN H g c)) (T.IsA a X) w' F) (fun F hp => (U.forfeit c hp hg hc).mono ?_)).mono ?_
  · rintro e w' ⟨he, F', h1, h2, h3⟩
    exact ⟨F', ⟨he, h1⟩, h2, h3⟩
  · rintro e w' hs
    obtain ⟨F, ⟨A', B', ⟨he, hp⟩, r⟩, r2⟩ := hs
    exact ⟨he, Turns.assoc ⟨F, ⟨A', B', hp, r⟩, r2⟩⟩
theorem Turns.fheld (h : Turns F0 w0 w (star (U.IsF v a H g) R)) [hR : Stable R] (c : Int) (hc : I64 c) :
    Calls Try.prog 23 #[v, .int .i64 c] w fun e w' => e = .returned (.int .u64 (hOf H c)) ∧ Turns F0 w0 w' (star (U.IsF v a H g) R) ∧ Below w.heap.size w w' := by
  have h' := h
  obtain ⟨F, ⟨A, B, hp, _⟩, _⟩ := h
  exact (U.held c hp hc).mono fun e w' ⟨he, hb⟩ => ⟨he, h'.more hb, hb⟩
theorem Turns.fgot (h : Turns F0 w0 w (star (U.IsF v a H g) R)) [hR : Stable R] :
    Calls Try.prog 24 #[v] w fun e w' => e = .returned (.int .u64 g) ∧ Turns F0 w0 w' (star (U.IsF v a H g) R) ∧ Below w.heap.size w w' := by
  have h' := h
  obtain ⟨F, ⟨A, B, hp, _⟩, _⟩ := h
  exact (U.got hp).mono fun e w' ⟨he, hb⟩ => ⟨he, h'.more hb, hb⟩
end
end Go.Proofs.Ytnicfhafepiknaa
