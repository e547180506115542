/- A writer beside a row of bytes that the law makes, step by step. Conditions: wire's calls are as their contracts say. -/
import Derived.Test.YtcnnfmooigfeiaaWireOwn
import Derived.Test.YtcnnfmooigfeiaaWireEnc
namespace Go.Proofs.Ytcnnfmooigfeiaa
open Go.RowKit Go.WideShapes

/-- A writer that has l, and a row of bytes t that the law made, apart from each other. -/
def PSt (A : WireApi) (w0 w : World) (p : Value) (l : List UInt8) (v : Value) (t : List UInt8) : Prop :=
  ∃ F, A.IsW w p l F ∧ (∀ k, F k → w0.heap.size ≤ k) ∧ Below w0.heap.size w0 w ∧ w.ownsRow w0.heap.size 5 1 v t.length (cells8 t) ∧ (∀ k, v.ownBlock = some k → ¬ F k)

section
variable {A : WireApi} {w0 w w' : World} {p v : Value} {l t : List UInt8}
theorem PSt.below (h : PSt A w0 w p l v t) : Below w0.heap.size w0 w := by obtain ⟨_, _, _, hb, _⟩ := h; exact hb
theorem PSt.wst (h : PSt A w0 w p l v t) : WSt A w0 w p l := by obtain ⟨F, hw, hF, hb, _⟩ := h; exact ⟨F, hw, hF, hb⟩
theorem PSt.own (h : PSt A w0 w p l v t) : w.ownsRow w0.heap.size 5 1 v t.length (cells8 t) := by obtain ⟨_, _, _, _, h, _⟩ := h; exact h
theorem PSt.start (h : WSt A w0 w p l) : PSt A w0 w p l (.slice none 0 0) [] := by
  obtain ⟨F, hw, hF, hb⟩ := h
  exact ⟨F, hw, hF, hb, by simpa [cells8] using World.ownsRow_nil _ _ _ _, fun k hk => by simp [Value.ownBlock] at hk⟩
theorem PSt.more (h : PSt A w0 w p l v t) (hb : Below w.heap.size w w') : PSt A w0 w' p l v t := by
  obtain ⟨F, hw, hF, hb0, ho, hd⟩ := h
  have hc : Chg (fun _ => False) w w' := Chg.of_below hb
  exact ⟨F, A.keepW hw hc (fun _ _ h => h), hF, hb0.trans (hb.mono hb0.size), own_chg ho hc (fun _ _ h => h), hd⟩
theorem pst_step {F F' : Nat → Prop} {l' : List UInt8} (hF : ∀ k, F k → w0.heap.size ≤ k) (hb0 : Below w0.heap.size w0 w) (ho : w.ownsRow w0.heap.size 5 1 v t.length (cells8 t)) (hd : ∀ k, v.ownBlock = some k → ¬ F k)
    (hw' : A.IsW w' p l' F') (hc : Chg F w w') (hF' : ∀ k, F' k → F k ∨ w.heap.size ≤ k) : PSt A w0 w' p l' v t :=
  ⟨F', hw', (st_step hF hb0 hc hF').1, (st_step hF hb0 hc hF').2, own_chg ho hc hd, fun k hk hf => (hF' k hf).elim (hd k hk) (fun h => by have := (ho.lt k hk).2; omega)⟩
theorem PSt.num (h : PSt A w0 w p l v t) (n : Int) (hn : Word n) (hl : l.length ≤ 1073741824) : Calls Try.prog 12 #[p, .int .u64 n] w fun e w' => e = .returned (.tuple #[]) ∧ PSt A w0 w' p (l ++ num8 n) v t := by
  obtain ⟨F, hw, hF, hb0, ho, hd⟩ := h
  exact (A.num n hw hn hl).mono fun e w' ⟨F', he, hw', hc, hF'⟩ => ⟨he, pst_step hF hb0 ho hd hw' hc hF'⟩
theorem PSt.int (h : PSt A w0 w p l v t) (n : Int) (hn : Word n) (hl : l.length ≤ 1073741824) : Calls Try.prog 10 #[p, .int .i64 (wrap64 n)] w fun e w' => e = .returned (.tuple #[]) ∧ PSt A w0 w' p (l ++ num8 n) v t := by
  obtain ⟨F, hw, hF, hb0, ho, hd⟩ := h
  have e : asU (wrap64 n) = n := by rw [← asI_wrap]; exact asU_asI hn
  exact (A.int (wrap64 n) hw hl).mono fun e' w' ⟨F', he, hw', hc, hF'⟩ => ⟨he, pst_step hF hb0 ho hd (by rw [e] at hw'; exact hw') hc hF'⟩
theorem PSt.text (h : PSt A w0 w p l v t) (a : Option Addr) (n cap : Nat) (x : List UInt8) (hl : l.length ≤ 1073741824) (hx : x.length = n) (hn : n ≤ 1073741824) (hc : n ≤ cap) (ha : a = none → cap = 0) (hr : Lie8 w0 (fun _ => False) a x) :
    Calls Try.prog 11 #[p, .slice a n cap] w fun e w' => e = .returned (.tuple #[]) ∧ PSt A w0 w' p (l ++ text8 x) v t := by
  obtain ⟨F, hw, hF, hb0, ho, hd⟩ := h
  have hr' : Lie8 w F a x := by
    rcases hr with rfl | ⟨ad, rfl, hb, _, hcell⟩
    · exact Or.inl rfl
    · refine Or.inr ⟨ad, rfl, Nat.lt_of_lt_of_le hb hb0.size, fun hf => ?_, fun j hj => (hb0.cell (p := ad.add j) (by rw [block_add]; exact hb)).trans (hcell j hj)⟩
      have := hF _ hf; omega
  exact (A.text a n cap x hw hl hx hn hc ha hr').mono fun e w' ⟨F', he, hw', hc, hF'⟩ => ⟨he, pst_step hF hb0 ho hd hw' hc hF'⟩
theorem PSt.rnum (h : PSt A w0 w p l v t) (n : Int) (hn : Word n) : Calls Try.prog 19 #[.int .u64 n] w fun e w' =>
    ∃ g cap : Nat, e = .returned (.slice (some ⟨g, 0, none⟩) 8 cap) ∧ PSt A w0 w' p l v t ∧ (∀ (j : Nat) (u : Value), (cells8 (num8 n))[j]? = some u → w'.cell? ((⟨g, 0, none⟩ : Addr).add j) = some u) :=
  (rnum_any n hn w).mono fun e w' ⟨x, he, ho, hb⟩ => by
    obtain ⟨g, cap, rfl, _, _, _, _, hc, _⟩ := own_form ho (by rw [num8_length]; omega)
    refine ⟨g, cap, he, h.more hb, fun j u hu => ?_⟩
    obtain ⟨hj, rfl⟩ := cells8_some hu
    rw [add_plain, Nat.zero_add]; exact hc j hj
theorem PSt.rtext (h : PSt A w0 w p l v t) (a : Option Addr) (n cap : Nat) (x : List UInt8) (hx : x.length = n) (hn : n ≤ 1073741824) (hc : n ≤ cap) (ha : a = none → cap = 0) (hr : Lie8 w0 (fun _ => False) a x) : Calls Try.prog 15 #[.slice a n cap] w fun e w' =>
    ∃ g cap : Nat, e = .returned (.slice (some ⟨g, 0, none⟩) (8 + n) cap) ∧ PSt A w0 w' p l v t ∧ (∀ (j : Nat) (u : Value), (cells8 (text8 x))[j]? = some u → w'.cell? ((⟨g, 0, none⟩ : Addr).add j) = some u) := by
  have hr' : Lie8 w (fun _ => False) a x := hr.below h.below
  refine (rtext_any a n cap x w hx hn hc ha hr').mono fun e w' ⟨y, he, ho, hb⟩ => ?_
  rw [text8_length, hx] at ho
  obtain ⟨g, cap, rfl, _, _, _, _, hc, _⟩ := own_form ho (by omega)
  refine ⟨g, cap, he, h.more hb, fun j u hu => ?_⟩
  obtain ⟨hj, rfl⟩ := cells8_some hu
  rw [add_plain, Nat.zero_add]; exact hc j hj
/-- What append leaves. -/
theorem PSt.append {v' : Value} {x : List UInt8} {n : Nat} (h : PSt A w0 w p l v t) (hx : x.length = n) (ho' : w'.ownsRow w0.heap.size 5 1 v' (t.length + n) (cells8 t ++ cells8 x)) (hg : w.grownBy w' v.ownBlock) (hat : v'.ownBlock = v.ownBlock ∨ v'.ownBlock = some w.heap.size) : PSt A w0 w' p l v' (t ++ x) := by
  obtain ⟨F, hw, hF, hb0, ho, hd⟩ := h
  have hc : Chg (fun k => v.ownBlock = some k) w w' := (Chg.refl _ w).grown hg (fun k hk _ => hk)
  refine ⟨F, A.keepW hw hc (fun k hf he => hd k he hf), hF, below_chg hb0 hc (fun i hi he => by have := (ho.lt i he).1; omega) (Nat.le_refl _), ?_, fun k hk hf => ?_⟩
  · rw [List.length_append, hx, cells8_append]; exact ho'
  · rcases hat with e | e
    · rw [e] at hk; exact hd k hk hf
    · rw [e] at hk
      obtain rfl := Option.some.inj hk
      have := A.ltW hw _ hf; omega
end
end Go.Proofs.Ytcnnfmooigfeiaa
