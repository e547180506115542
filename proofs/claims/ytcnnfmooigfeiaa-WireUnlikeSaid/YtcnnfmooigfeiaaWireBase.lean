/- Package wire's own helper, and plain facts on a block that holds one value. Conditions: the bytes lie in memory, and are fewer than 2^31. -/
import Derived.Test.YtcnnfmooigfeiaaWireApi
import Derived.Lib.Hide
import Derived.WalkKit
import Derived.WalkSpells
import Derived.OneCell
import Derived.Outline
import Derived.Laws.AppendOwnNone
namespace Go.Proofs.Ytcnnfmooigfeiaa
open Go.RowKit Go.WideShapes

theorem Try.info8 : (Try.prog.info? 5).map (fun i => (i.zero, i.size, i.bytes)) = some (some (.int .u8 0), 1, 1) := by kernel_rfl

/-- A copy in new memory. -/
theorem own_any (A : Option Addr) (n cap : Nat) (l : List UInt8) (w : World) (F : Nat → Prop) (hl : l.length = n) (hn : n ≤ 2147483648) (hA : A = none → cap = 0) (hnc : n ≤ cap) (h : Lie8 w F A l) :
    Calls Try.prog 23 #[.slice A n cap] w fun e w' => ∃ x, e = .returned x ∧ Fresh8 w w' x l := by
  obtain ⟨i0, hi, hz0, hz1, hz2⟩ := info_parts Try.info8
  have hlen : (cells8 l).length = n * 1 := by rw [cells8_length]; omega
  rcases A with _ | a
  · obtain rfl := hA rfl
    have hn0 : n = 0 := by omega
    subst hn0
    have hl0 : l = [] := List.eq_nil_of_length_eq_zero hl
    subst hl0
    go_enter Try.func23, Try.ntmps23
    go_wp2_with (at_builtin; refine wpList_append_own_none rfl _ _ 25 rfl w.heap.size 5 i0 1 Try.underlying25 hi (.slice none 0 0) 0 [] rfl (World.ownsRow_nil _ _ _ _) rfl ?_)
    go_ret
    exact ⟨_, rfl, World.ownsRow_nil _ _ _ _, Below.refl _ _⟩
  · have hcell : ∀ j u, (cells8 l)[j]? = some u → w.cell? (a.add j) = some u := by
      intro j u hu
      obtain ⟨hj, rfl⟩ := cells8_some hu
      rcases h with rfl | ⟨a', ha, _, _, hc⟩
      · simp at hj
      · obtain rfl := Option.some.inj ha
        exact hc j hj
    go_enter Try.func23, Try.ntmps23
    go_wp2_with (at_builtin; refine wpList_append_own _ rfl _ _ 25 rfl w.heap.size 5 i0 (.int .u8 0) 1 1 Try.underlying25 hi hz0 hz1 hz2 rfl (by decide) (.slice none 0 0) 0 [] rfl (World.ownsRow_nil _ _ _ _) a n cap (cells8 l) rfl hlen hcell (cells8_one l) ?c1 ?c2 (Nat.le_refl _) ?_)
    case c1 => unfold maxLen; omega
    case c2 => omega
    intro v' w1 hown hgr _
    subst hl
    have hown : w1.ownsRow w.heap.size 5 1 v' l.length (cells8 l) := by simpa using hown
    have hb : Below w.heap.size w w1 := (Below.refl _ _).grown hgr (Nat.le_refl _) (fun k hk => by cases hk)
    go_wp2
    go_ret
    exact ⟨_, rfl, hown, hb⟩
end Go.Proofs.Ytcnnfmooigfeiaa
