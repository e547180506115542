/- prio's ranks as container/heap asks for them: Len, Less, Swap, Push, Pop. Conditions: they lie in memory; at most a million orders. -/
import Derived.Test.YtkbebllkjmccoaaSortStable
import Derived.Test.YtkbebllkjmccoaaHeapCalls
import Derived.Test.YtkbebllkjmccoaaSideRef5
namespace Go.Proofs.Ytkbebllkjmccoaa
open Go.RowKit Go.WideShapes

/-- Orders at p, up or not, as they lie: one behind the other. -/
def RankHP (p : Addr) (up : Bool) (D : Ords) : HP := fun w F => ∃ x : Nat × Option Addr × Nat, p = ⟨x.1, 0, none⟩ ∧ star (Blk x.1 #[.bool up, .slice x.2.1 D.length x.2.2] 54) (ORow x.2.1 x.2.2 D) w F
instance RankHP.stable (p : Addr) (up : Bool) (D : Ords) : Stable (RankHP p up D) := inferInstanceAs (Stable (fun w F => ∃ x : Nat × Option Addr × Nat, p = ⟨x.1, 0, none⟩ ∧ star (Blk x.1 #[.bool up, .slice x.2.1 D.length x.2.2] 54) (ORow x.2.1 x.2.2 D) w F))
section
variable {F0 : Nat → Prop} {w0 w : World} {p : Addr} {up : Bool} {D : Ords} {F : Nat → Prop}
theorem RankHP.open' (h : RankHP p up D w F) : ∃ b A cap, p = ⟨b, 0, none⟩ ∧ Turns F w w (star (ORow A cap D) (star (Blk b #[.bool up, .slice A D.length cap] 54) nothing)) := by
  obtain ⟨⟨b, A, cap⟩, hp, h⟩ := h
  exact ⟨b, A, cap, hp, (Turns.begin h).pad.assoc.swap⟩
theorem RankHP.shut {b cap : Nat} {A : Option Addr} (h : Turns F0 w0 w (star (ORow A cap D) (star (Blk b #[.bool up, .slice A D.length cap] 54) nothing))) : Turns F0 w0 w (RankHP ⟨b, 0, none⟩ up D) := by
  refine h.swap.assoc'.one.imp fun F h => ⟨⟨b, A, cap⟩, rfl, h⟩
theorem RankHP.shut' {b cap n : Nat} {A : Option Addr} (hl : D.length = n) (h : Turns F0 w0 w (star (RowN 28 5 (.slice A n cap) n (cellsO D)) (star (Blk b #[.bool up, .slice A n cap] 54) nothing))) : Turns F0 w0 w (RankHP ⟨b, 0, none⟩ up D) := by
  subst hl; exact RankHP.shut h
end

theorem rank_len {w : World} {p : Addr} {up : Bool} {L : Ords} {F : Nat → Prop} (h : RankHP p up L w F) : Calls Try.prog 25 #[.pointer (some p)] w fun e w' => e = .returned (.int .i64 L.length) ∧ Below w.heap.size w w' := by
  obtain ⟨b, A, cap, rfl, ht⟩ := h.open'
  obtain ⟨_, _, q, _⟩ := ht.swap.blk
  have q1 := q 1 _ rfl
  clear ht q h
  go_enter Try.func25, Try.ntmps25
  go_wp2_with fail
  go_ret
  exact ⟨rfl, Below.refl _ _⟩

set_option maxRecDepth 100000 in
set_option maxHeartbeats 4000000 in
theorem rank_less {w : World} {p : Addr} {up : Bool} {L : Ords} {F : Nat → Prop} (i j : Nat) (h : RankHP p up L w F) (hi : i < L.length) (hj : j < L.length) :
    Calls Try.prog 62 #[.pointer (some p), .int .i64 i, .int .i64 j] w fun e w' => e = .returned (.bool (aheadO up (atL L i) (atL L j))) ∧ Below w.heap.size w w' := by
  obtain ⟨b, A, cap, rfl, ht⟩ := h.open'
  obtain ⟨g, hg⟩ : ∃ g, A = some ⟨g, 0, none⟩ := by
    obtain ⟨g, e, _⟩ := row_ord ht.rowN hi
    exact ⟨g, e⟩
  subst hg
  obtain ⟨⟨x1, x2, x3, x4, x5⟩, hx⟩ : ∃ x, L[i] = x := ⟨_, rfl⟩
  obtain ⟨⟨y1, y2, y3, y4, y5⟩, hy⟩ : ∃ y, L[j] = y := ⟨_, rfl⟩
  obtain ⟨n, hn⟩ : ∃ n, L.length = n := ⟨_, rfl⟩
  have hf : ∀ w', Below w.heap.size w w' → (w'.cell? ⟨b, 1, none⟩ = some (.slice (some ⟨g, 0, none⟩) n cap) ∧ w'.cell? ⟨g, i * 5, none⟩ = some (.int .i64 x1) ∧ w'.cell? ⟨g, i * 5 + 1, none⟩ = some (.int .i64 x2) ∧ w'.cell? ⟨g, i * 5 + 2, none⟩ = some (.bool x3) ∧ w'.cell? ⟨g, i * 5 + 3, none⟩ = some (.int .u64 x4) ∧ w'.cell? ⟨g, i * 5 + 4, none⟩ = some (.int .u64 x5) ∧ w'.cell? ⟨g, j * 5, none⟩ = some (.int .i64 y1) ∧ w'.cell? ⟨g, j * 5 + 1, none⟩ = some (.int .i64 y2) ∧ w'.cell? ⟨g, j * 5 + 2, none⟩ = some (.bool y3) ∧ w'.cell? ⟨g, j * 5 + 3, none⟩ = some (.int .u64 y4) ∧ w'.cell? ⟨g, j * 5 + 4, none⟩ = some (.int .u64 y5)) := fun w' hb => by
    have h' := ht.more hb
    obtain ⟨_, _, q, _⟩ := h'.swap.blk
    have q1 := q 1 _ rfl
    have t := two_cells hi hj hx hy h'
    rw [hn] at q1
    exact ⟨q1, t⟩
  have HF := Lib.hid hf
  obtain ⟨_, hb, q, _⟩ := ht.swap.blk
  have K := compare_any (w := w.drew) (up := up) ⟨x1, x2, x3, x4, x5⟩ ⟨y1, y2, y3, y4, y5⟩ hb (q 0 _ rfl)
  obtain ⟨av, hav⟩ : ∃ v, aheadO up ⟨x1, x2, x3, x4, x5⟩ ⟨y1, y2, y3, y4, y5⟩ = v := ⟨_, rfl⟩
  rw [atL_eq hi, atL_eq hj, hx, hy, hav]
  rw [hav] at K
  unfold OrdV.val at K
  have HK := Lib.hid K
  have e0 := hf _ (Below.refl _ w).drew
  rw [hn] at hi hj
  have i1 : (i : Int) < (n : Int) := by omega
  have i2 : (j : Int) < (n : Int) := by omega
  clear ht q hf hx hy hav K h hn
  go_enter Try.func62, Try.ntmps62
  go_upto_region 1 with fail
  go_region_held3 (fun w' : World => (w'.cell? ⟨b, 1, none⟩ = some (.slice (some ⟨g, 0, none⟩) n cap) ∧ w'.cell? ⟨g, i * 5, none⟩ = some (.int .i64 x1) ∧ w'.cell? ⟨g, i * 5 + 1, none⟩ = some (.int .i64 x2) ∧ w'.cell? ⟨g, i * 5 + 2, none⟩ = some (.bool x3) ∧ w'.cell? ⟨g, i * 5 + 3, none⟩ = some (.int .u64 x4) ∧ w'.cell? ⟨g, i * 5 + 4, none⟩ = some (.int .u64 x5) ∧ w'.cell? ⟨g, j * 5, none⟩ = some (.int .i64 y1) ∧ w'.cell? ⟨g, j * 5 + 1, none⟩ = some (.int .i64 y2) ∧ w'.cell? ⟨g, j * 5 + 2, none⟩ = some (.bool y3) ∧ w'.cell? ⟨g, j * 5 + 3, none⟩ = some (.int .u64 y4) ∧ w'.cell? ⟨g, j * 5 + 4, none⟩ = some (.int .u64 y5))) (first | exact e1 | exact e0) (first
    | (go_at_call 28; refine HK.out.mono ?_; rintro e w10 ⟨c, rfl, hc, hb10⟩; have e1 := HF.out w10 ((Below.refl _ w).drew.trans hb10); have H10 := Lib.hid ((Below.refl _ w).drew.trans hb10); clear hb10))
  all_goals
    go_wp2_with fail
    go_ret
    exact ⟨rfl, H10.out⟩

end Go.Proofs.Ytkbebllkjmccoaa
