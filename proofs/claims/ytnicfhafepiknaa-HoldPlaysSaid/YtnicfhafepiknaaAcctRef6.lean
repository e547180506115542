/- The document's accounts as a thing that lies apart: its calls, on a world that has turned. Conditions: they lie in memory; good numbers. -/
import Derived.Test.YtnicfhafepiknaaAcctRef5
namespace Go.Proofs.Ytnicfhafepiknaa
open Go.RowKit Go.WideShapes

section
variable {F0 : Nat → Prop} {w0 w w' : World} {b : Nat} {s : Value} {X : Accts} {R : HP}
theorem st_acct6 (h : Turns F0 w0 w R) [hR : Stable R] (n : Int) : Calls Try.prog 17 #[.int .i64 n] w fun e w' => ∃ b s, e = .returned (.pointer (some ⟨b, 0, none⟩)) ∧ Turns F0 w0 w' (star (AccAt b s (newA n)) R) :=
  (rnew6_any w n).mono fun _ _ ⟨b, s, _, he, ha, hF, hb⟩ => ⟨b, s, he, h.add hb ha hF⟩
theorem Turns.rput (h : Turns F0 w0 w (star (AccAt b s X) R)) [hR : Stable R] (c t n : Int) (hg : GoodA X) (hn : U64 n) :
    Calls Try.prog 18 #[.pointer (some ⟨b, 0, none⟩), .int .i64 c, .int .i64 t, .int .u64 n] w fun e w' => e = .returned (.int .i64 (putE X c t n)) ∧ Turns F0 w0 w' (star (AccAt b s (putX X c t n)) R) := by
  refine (h.call (Q := fun e w' F => e = .returned (.int .i64 (putE X c t n)) ∧ AccAt b s (putX X c t n) w' F) (fun F hp => (rput6_any c t n hp hg hn).mono ?_)).mono ?_
  · rintro e w' ⟨he, F', h1, h2, h3⟩
    exact ⟨F', ⟨he, h1⟩, h2, h3⟩
  · rintro e w' hs
    obtain ⟨F, ⟨A', B', ⟨he, hp⟩, r⟩, r2⟩ := hs
    exact ⟨he, F, ⟨A', B', hp, r⟩, r2⟩
theorem Turns.rtake (h : Turns F0 w0 w (star (AccAt b s X) R)) [hR : Stable R] (c t n : Int) (hg : GoodA X) (hn : U64 n) :
    Calls Try.prog 19 #[.pointer (some ⟨b, 0, none⟩), .int .i64 c, .int .i64 t, .int .u64 n] w fun e w' => e = .returned (.int .i64 (takeE X c t n)) ∧ Turns F0 w0 w' (star (AccAt b s (takeX X c t n)) R) := by
  refine (h.call (Q := fun e w' F => e = .returned (.int .i64 (takeE X c t n)) ∧ AccAt b s (takeX X c t n) w' F) (fun F hp => (rtake6_any c t n hp hg hn).mono ?_)).mono ?_
  · rintro e w' ⟨he, F', h1, h2, h3⟩
    exact ⟨F', ⟨he, h1⟩, h2, h3⟩
  · rintro e w' hs
    obtain ⟨F, ⟨A', B', ⟨he, hp⟩, r⟩, r2⟩ := hs
    exact ⟨he, F, ⟨A', B', hp, r⟩, r2⟩
theorem Turns.rfree (h : Turns F0 w0 w (star (AccAt b s X) R)) (c t : Int) :
    Calls Try.prog 21 #[.pointer (some ⟨b, 0, none⟩), .int .i64 c, .int .i64 t] w fun e w' => e = .returned (.int .u64 (freeA X c t)) ∧ w' = w := by
  obtain ⟨F, ⟨A, B, hp, _⟩, _⟩ := h
  exact rfree6_any c t hp
theorem Turns.rsum (h : Turns F0 w0 w (star (AccAt b s X) R)) [hR : Stable R] (t : Int) (hg : GoodA X) (hl : X.length ≤ 100000) :
    Calls Try.prog 20 #[.pointer (some ⟨b, 0, none⟩), .int .i64 t] w fun e w' => e = .returned (.tuple #[.int .u64 (sumV X t), .bool (sumOk X t)]) ∧ Turns F0 w0 w' (star (AccAt b s X) R) ∧ Below w.heap.size w w' := by
  have h' := h
  obtain ⟨F, ⟨A, B, hp, _⟩, _⟩ := h
  exact (rsum6_any t hp hg hl).mono fun e w' ⟨he, hb⟩ => ⟨he, h'.more hb, hb⟩
end
end Go.Proofs.Ytnicfhafepiknaa
