/- The fees as they lie in memory: a block with the accounts, a map of what is held of whom, and what was got; their inner calls. Conditions: fees that New made. -/
import Derived.Test.YtnicfhafepiknaaHoldApi
import Derived.Test.YtnicfhafepiknaaAcctCalls
import Derived.Test.YtnicfhafepiknaaMapN
import Derived.Lib.MinMax
namespace Go.Proofs.Ytnicfhafepiknaa
open Go.RowKit Go.WideShapes

def upH (h : Int → Int) (c v : Int) : Int → Int := fun x => if x = c then v else h x
/-- Nobody but clients 0 to 999 has anything held. -/
def Few (h : Int → Int) : Prop := ∀ c, h c ≠ 0 → 0 ≤ c ∧ c < 1000
def gotN (g x : Int) : Int := if 18446744073709551616 ≤ g + x then 0 else x
theorem gotN_le {g x : Int} (h : U64 x) : 0 ≤ gotN g x ∧ gotN g x ≤ x := by
  have h1 := h.1
  unfold gotN
  split <;> omega
theorem setA_self (X : Accts) (c s : Int) : setA X c s (amt X c s) = X := by
  unfold setA amt
  have e : withSide s (side s (X.getD c.toNat (0, 0))) (X.getD c.toNat (0, 0)) = X.getD c.toNat (0, 0) := by
    unfold withSide side
    split <;> rfl
  rw [e]
  by_cases h : c.toNat < X.length
  · rw [List.getD_eq_getElem?_getD, List.getElem?_eq_getElem h, Option.getD_some, List.set_getElem_self]
  · exact List.set_eq_of_length_le (by omega)
theorem putX_zero (X : Accts) (c s : Int) : putX X c s 0 = X := by
  unfold putX
  rw [Int.add_zero, setA_self]
  split <;> rfl
theorem takeX_zero (X : Accts) (c s : Int) : takeX X c s 0 = X := by
  unfold takeX
  rw [Int.sub_zero, setA_self]
  split <;> rfl
theorem upH_self (h : Int → Int) (c : Int) : upH h c (h c) = h := by
  funext x
  unfold upH
  split
  · next e => rw [e]
  · rfl
theorem hOf_upd {H : List Int} {c v : Int} (hc : 0 ≤ c ∧ c < H.length) : hOf (hSet H c v) = upH (hOf H) c v := by
  funext x
  rw [hOf_set hc]
  rfl
theorem few_of {X : Accts} {H : List Int} {g : Int} (h : GoodF X H g) : Few (hOf H) := fun c hc => by
  have h1 := hOf_in hc
  have h2 := h.len
  have h3 := h.same
  omega

/-- The key of each client of whom anything is held, in a row that rises. -/
def keysH (h : Int → Int) : List Int := ((List.range 1000).filter fun i : Nat => decide (h (i : Int) ≠ 0)).map fun i : Nat => (i : Int)
theorem keysH_rise (h : Int → Int) : (keysH h).Pairwise (· < ·) := by
  unfold keysH
  refine List.pairwise_map.2 (List.Pairwise.filter _ (List.pairwise_lt_range.imp fun {a b} hab => ?_))
  omega
theorem keysH_mem {h : Int → Int} (hf : Few h) (x : Int) : x ∈ keysH h ↔ h x ≠ 0 := by
  unfold keysH
  simp only [List.mem_map, List.mem_filter, List.mem_range, decide_eq_true_eq]
  constructor
  · rintro ⟨i, ⟨_, hi⟩, rfl⟩; exact hi
  · intro hx
    have := hf x hx
    exact ⟨x.toNat, ⟨by omega, by rw [Int.toNat_of_nonneg this.1]; exact hx⟩, Int.toNat_of_nonneg this.1⟩
theorem keysH_len (h : Int → Int) : (keysH h).length ≤ 1000 := by
  unfold keysH
  rw [List.length_map]
  exact Nat.le_trans (List.length_filter_le _ _) (by simp)

def FeesB (b m : Nat) (a : Value) (h : Int → Int) (g : Int) : HP := fun w F =>
  ∃ f n, (∀ x, f (.int .i64 x) = if h x = 0 then none else some (.int .u64 (h x))) ∧ star (Blk b #[a, .map (some m), .int .u64 g] 77) (MV 3 m f n) w F
instance FeesB.stable (b m : Nat) (a : Value) (h : Int → Int) (g : Int) : Stable (FeesB b m a h g) := by unfold FeesB; infer_instance
def IsFees (v a : Value) (H : List Int) (g : Int) : HP := fun w F => ∃ b m, v = .pointer (some ⟨b, 0, none⟩) ∧ FeesB b m a (hOf H) g w F
instance IsFees.stable (v a : Value) (H : List Int) (g : Int) : Stable (IsFees v a H g) := by unfold IsFees; infer_instance

theorem zero_u64 (w : World) : (zeroValue 26).run Try.prog w = .ok (.int .u64 0) w := by kernel_rfl

section
variable {F0 : Nat → Prop} {w0 w : World} {b m : Nat} {a : Value} {h : Int → Int} {g : Int} {R : HP}
theorem FeesB.open (hT : Turns F0 w0 w (star (FeesB b m a h g) R)) : ∃ f n, (∀ x, f (.int .i64 x) = if h x = 0 then none else some (.int .u64 (h x))) ∧ Turns F0 w0 w (star (Blk b #[a, .map (some m), .int .u64 g] 77) (star (MV 3 m f n) R)) := by
  obtain ⟨F, ⟨A, B, ⟨f, n, hf, hp⟩, r⟩, r2⟩ := hT
  exact ⟨f, n, hf, Turns.assoc ⟨F, ⟨A, B, hp, r⟩, r2⟩⟩
theorem FeesB.shut {f : Lit → Option Value} {n : Nat} (hf : ∀ x, f (.int .i64 x) = if h x = 0 then none else some (.int .u64 (h x))) (hT : Turns F0 w0 w (star (Blk b #[a, .map (some m), .int .u64 g] 77) (star (MV 3 m f n) R))) : Turns F0 w0 w (star (FeesB b m a h g) R) := by
  obtain ⟨F, ⟨A, B, hp, r⟩, r2⟩ := hT.assoc'
  exact ⟨F, ⟨A, B, ⟨f, n, hf, hp⟩, r⟩, r2⟩
theorem FeesB.facts (hT : Turns F0 w0 w (star (FeesB b m a h g) R)) : b < w.heap.size ∧ w.cell? ⟨b, 0, none⟩ = some a ∧ w.cell? ⟨b, 1, none⟩ = some (.map (some m)) ∧ w.cell? ⟨b, 2, none⟩ = some (.int .u64 g) ∧ w.frozen? ⟨b, 2, none⟩ = false ∧
    ∀ c, I64 c → (Instr.lookup 75 (.map (some m)) (.int .i64 c) false).run Try.prog w = .ok (.int .u64 (h c)) w := by
  obtain ⟨f, n, hf, hT⟩ := FeesB.open hT
  obtain ⟨_, hlt, hc, hfr⟩ := hT.blk
  refine ⟨hlt, hc 0 _ rfl, hc 1 _ rfl, hc 2 _ rfl, hfr 2, fun c hc => ?_⟩
  have hl := (hT.swap.mv).look (te := 26) (tm := 75) (Maps.int_keyed Try.underlying3) Try.underlying75 (zero_u64 w) (key_int hc) trivial
  rw [hf c] at hl
  rw [hl]
  split
  · next e => rw [e]; rfl
  · rfl

set_option maxRecDepth 100000 in
set_option maxHeartbeats 4000000 in
theorem fees_get [hR : Stable R] (x : Int) (hT : Turns F0 w0 w (star (FeesB b m a h g) R)) (hx : U64 x) (hg : U64 g) :
    Calls Try.prog 44 #[.pointer (some ⟨b, 0, none⟩), .int .u64 x] w fun e w' => e = .returned (.int .u64 (gotN g x)) ∧ Turns F0 w0 w' (star (FeesB b m a h (g + gotN g x)) R) := by
  obtain ⟨hlt, _, _, c2, f2, _⟩ := FeesB.facts hT
  unfold gotN
  by_cases ho : 18446744073709551616 ≤ g + x
  · rw [if_pos ho, Int.add_zero]
    have A := Lib.hid (add_none g x ⟨hg.1, hg.2⟩ ⟨hx.1, hx.2⟩ ho)
    have HT := Lib.hid hT
    clear hT hx hg ho
    go_enter Try.func44, Try.ntmps44
    go_wp2_with fail
    refine (A.out _).mono ?_
    rintro e w2 ⟨rfl, rfl⟩
    go_wp2_with fail
    go_ret
    exact ⟨rfl, HT.out⟩
  · rw [if_neg ho]
    have A := Lib.hid (add_yes g x ⟨hg.1, hg.2⟩ ⟨hx.1, hx.2⟩ (by omega))
    obtain ⟨f, n, hf, h1⟩ := FeesB.open hT
    have HT := Lib.hid (FeesB.shut (g := g + x) hf (h1.blk_set 2 (.int .u64 (g + x))))
    clear hT hx hg ho h1 hf
    go_enter Try.func44, Try.ntmps44
    go_wp2_with fail
    refine (A.out _).mono ?_
    rintro e w2 ⟨rfl, rfl⟩
    go_wp2_with fail
    go_ret
    exact ⟨rfl, HT.out⟩

set_option maxRecDepth 100000 in
set_option maxHeartbeats 4000000 in
theorem fees_keep [hR : Stable R] (c x : Int) (hT : Turns F0 w0 w (star (FeesB b m a h g) R)) (hf : Few h) (hc : I64 c) :
    Calls Try.prog 45 #[.pointer (some ⟨b, 0, none⟩), .int .i64 c, .int .u64 x] w fun e w' => e = .returned (.tuple #[]) ∧ Turns F0 w0 w' (star (FeesB b m a (upH h c x) g) R) := by
  obtain ⟨hlt, _, c1, _, _, _⟩ := FeesB.facts hT
  obtain ⟨f, n, hs, h1⟩ := FeesB.open hT
  by_cases hx : x = 0
  · subst hx
    obtain ⟨w2, hrun, hown, hg⟩ := (h1.swap.mv).drop (te := 26) (tm := 75) (Maps.int_keyed Try.underlying3) Try.underlying75 (key_int hc) trivial 0
    have h2 := FeesB.shut (h := upH h c 0) (fun y => by
      unfold upH
      by_cases e : y = c
      · subst e
        rw [offV_same f (show WideAt.IsKeyLit (.int .i64 y) from trivial), if_pos (if_pos rfl)]
      · rw [offV_other f (fun h => e (by injection h)), hs y, if_neg e]) (h1.swap.mv_put hown hg).swap
    have HT := Lib.hid h2
    clear h2 hown hg hs h1 hT hc hf
    go_enter Try.func45, Try.ntmps45
    go_wp2_with fail
    refine bodyPost_ret (results_none rfl _ _ _) rfl ?_
    exact ⟨rfl, HT.out⟩
  · have hn : n ≤ 1000 := by
      have e := (h1.swap.mv).count (keysH_rise h) fun y => by
        rw [keysH_mem hf, hs y]
        split <;> simp [*]
      rw [e]
      exact keysH_len h
    obtain ⟨w2, hrun, hown, hg⟩ := (h1.swap.mv).put (val := .int .u64 x) (te := 26) (tm := 75) (Maps.int_keyed Try.underlying3) Try.underlying75 (by unfold maxLen; omega) (key_int hc) trivial
    have h2 := FeesB.shut (h := upH h c x) (fun y => by
      unfold upH
      by_cases e : y = c
      · subst e
        rw [upV_same f (show WideAt.IsKeyLit (.int .i64 y) from trivial), if_pos rfl, if_neg hx]
      · rw [upV_other f _ (fun h => e (by injection h)), hs y, if_neg e]) (h1.swap.mv_put hown hg).swap
    have HT := Lib.hid h2
    have b1 : (x == 0) = false := by simp [hx]
    clear h2 hown hg hs h1 hT hc hf hn hx
    go_enter Try.func45, Try.ntmps45
    go_wp2_with fail
    go_end0
    exact ⟨rfl, HT.out⟩
end
end Go.Proofs.Ytnicfhafepiknaa
