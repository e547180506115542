/- The frame of a law's proof, and how its arguments lie in memory, with what each row may take at most: no row takes more than a process's memory holds. Conditions: the arguments were read as data. -/
import Derived.Test.YtdhnpbfoeohhmaaView
import Derived.SizedLaws
namespace Go.Proofs.Ytdhnpbfoeohhmaa
open Go.ChangeShapes Go.WideShapes Go.ChangeAt Go.RowKit Go.Deep

theorem weights_left {H : Type} {P : Program} : ∀ (ts us : List TypeId) (ds gs : List (DataW H)) {n : Nat}, n ∈ DataW.weightsEach P ts ds → n ∈ DataW.weightsEach P (ts ++ us) (ds ++ gs)
  | [], _, _, _, _, h => by simp [DataW.weightsEach] at h
  | _ :: _, _, [], _, _, h => by simp [DataW.weightsEach] at h
  | _ :: ts, us, _ :: ds, gs, n, h => by
    simp only [DataW.weightsEach, List.mem_append, List.cons_append] at h ⊢
    exact h.imp id (weights_left ts us ds gs)
theorem law_sized {C : Checked} {os : Os} {F : FuncId} {fn : Func} {s : ChangeSpec} {tb : TypeId} {H : Type} {enc : TypeId × Value → H}
    (own : ownKnob C.prog.godebug = none) (started : os.Started) (noInit : C.prog.inits.idxOf? F = none) (hfn : C.prog.funcs[F]? = some fn)
    (witness : ∃ (w : World) (tape : Tape) (i : Input), w.os = os ∧ (w.forCall tape i).Shaped C.prog ∧ i.vars = [] ∧ Input.okWide C.prog (w.forCall tape i) .any w.heap.size F i ∧
      s.pre6 enc C.prog fn [] false (w.forCall tape i).memory i.args ∧ ({} : Assume).holds C.prog (lone (Frame.enter C.prog F i.args .normal) [] (w.forCall tape i)))
    (hl : laidOutB C.prog = true) (hts : (fn.params.toList.all fun t => C.prog.readableRec t && decide (t < C.prog.types.size)) = true)
    (hrt : fn.resultTypes = #[tb]) (htb : C.prog.underlying tb = some .bool) (hv : s.vars = [])
    (hspec : ∀ ds : List (DataW H), ds.length = fn.params.toList.length → s.fn H ds = { results := [.lit (.bool true)], args := ds })
    (contract : ∀ (W : World) (base : Nat) (args : Array Value) (ds : List (DataW H)) (before : List MemPlace),
      (∀ (j : Nat) t v, fn.params[j]? = some t → args[j]? = some v → Value.okWide C.prog W .any base t v) →
      DataW.TrodAll enc C.prog W 0 (fun _ => true) true fn.params.toList args.toList ds before → (∀ x ∈ before, x.block < W.heap.size) →
      (DataW.weightsEach C.prog fn.params.toList ds).all (· ≤ reachBytes) = true →
      Calls C.prog F args W fun e W' => e = .returned (.bool true) ∧ Below W.heap.size W W') :
    ReturnsInHanded {} C os F .any (s.pre6 enc C.prog fn [] false) (s.post enc C.prog fn false true false false) := by
  refine returnsInHanded_of_change_sized own started noInit hfn witness ?_
  intro W base args ds gs before hval hW _ hsz _
  have hlt : ∀ p ∈ before, p.block < W.heap.size := fun p hp => hW.lt p hp
  have hW' := hW
  obtain ⟨p, q, hA, hV, hpq, _, _⟩ := hW'
  rw [hv] at hV
  obtain ⟨rfl, rfl⟩ := trodVars_none hV
  rw [List.append_nil] at hpq
  subst hpq
  have hlen := trod_length _ _ _ _ hA
  have hsz' : (DataW.weightsEach C.prog fn.params.toList ds).all (· ≤ reachBytes) = true := List.all_eq_true.2 fun n hn => List.all_eq_true.1 hsz n (weights_left _ _ _ _ hn)
  refine (contract W base args ds before hval hA hlt hsz').mono fun e W' ⟨he, hb⟩ => ⟨.bool true, he, ?_⟩
  have hsp : s.fn H (ds ++ []) = { results := [.lit (.bool true)], args := ds } := by rw [List.append_nil]; exact hspec ds hlen
  refine ⟨ds, [], before, [], before, [], hW, ?_, ?_, ?_, World.keptBut_mono (fun x hx => ⟨hx, Or.inr (Or.inl hx)⟩) (hb.frame (· ∈ before)), fun h => by cases h⟩
  · rw [hsp, hrt]
    exact trodAll_mk1 (shut_bool htb _)
  · rw [hsp]
    exact stays_all hl hb _ _ _ _ hts hA hlt
  · rw [hsp, hv]
    rfl

/-- No row in d takes more than a process's memory holds. -/
def Fits {H : Type} (P : Program) (t : TypeId) (d : DataW H) : Prop := ∀ n ∈ d.weights P t, n ≤ reachBytes
theorem Fits.arg {H : Type} {P : Program} {ts : List TypeId} {ds : List (DataW H)} (h : (DataW.weightsEach P ts ds).all (· ≤ reachBytes) = true) {j : Nat} {t : TypeId} {d : DataW H} (ht : ts[j]? = some t) (hd : ds[j]? = some d) : Fits P t d := fun n hn => by
  simpa using List.all_eq_true.1 h _ (DataW.weights_mem_each ht hd n hn)
theorem mem_weightsAll {H : Type} {P : Program} {e : TypeId} {n : Nat} : ∀ {l : List (DataW H)} {d : DataW H}, d ∈ l → n ∈ d.weights P e → n ∈ DataW.weightsAll P e l
  | [], _, h, _ => by cases h
  | x :: l, d, h, hn => by
    simp only [DataW.weightsAll, List.mem_append]
    rcases List.mem_cons.1 h with rfl | h
    · exact Or.inl hn
    · exact Or.inr (mem_weightsAll h hn)
theorem Fits.len {H : Type} {P : Program} {t e : TypeId} {xs sp : List (DataW H)} (h : Fits P t (.slice xs sp)) (ht : P.underlying t = some (.slice e)) : (xs.length + sp.length) * P.bytesOf e ≤ reachBytes := h _ (by simp [DataW.weights, ht])
theorem Fits.elem {H : Type} {P : Program} {t e : TypeId} {xs sp : List (DataW H)} (h : Fits P t (.slice xs sp)) (ht : P.underlying t = some (.slice e)) {d : DataW H} (hd : d ∈ xs) : Fits P e d := fun n hn => by
  refine h _ ?_
  simp only [DataW.weights, ht, List.mem_cons, List.mem_append]
  exact Or.inr (Or.inl (mem_weightsAll hd hn))
theorem Fits.field {H : Type} {P : Program} {t tj : TypeId} {fs : Array Field} {xs : List (DataW H)} (h : Fits P t (.agg xs)) (ht : P.underlying t = some (.struct fs)) {j : Nat} {d : DataW H} (hj : (fs.map (·.type))[j]? = some tj) (hd : xs[j]? = some d) : Fits P tj d := fun n hn => by
  refine h _ ?_
  simp only [DataW.weights, ht]
  refine DataW.weights_mem_each (j := j) ?_ hd n hn
  rw [← Array.getElem?_toList] at hj
  simpa using hj

section
variable {H : Type} {enc : TypeId × Value → H} {P : Program} {w : World} {fuel : Nat} {x : DataW H × List MemPlace} {v : Value}

/-- A row of bytes that came in. -/
theorem bytes_sized {t e : TypeId} (ht : P.underlying t = some (.slice e)) (he : P.underlying e = some (.int .u8)) (hc : P.cellsOf e = 1) (h1 : 1 ≤ P.bytesOf e) (hf : Fits P t x.1) (h : DataW.trod enc P w 0 (fun _ => true) true fuel t [v] = some x) :
    ∃ (A : Option Addr) (cap : Nat) (l : List UInt8), v = .slice A l.length cap ∧ l.length ≤ cap ∧ cap ≤ 9223372036854775807 ∧ (A = none → cap = 0) ∧ Lie8 w (fun _ => False) A l ∧ l.length ≤ 140737488351232 := by
  rcases open_ints ht he hc h with ⟨hcs, _⟩ | ⟨a, len, cap, zs, hcs, _, hl, hm, hz, hx, hcell, hwz⟩
  · exact ⟨none, 0, [], by simpa using hcs, Nat.le_refl _, by decide, fun _ => rfl, Or.inl rfl, by decide⟩
  · simp only [List.cons.injEq, and_true] at hcs
    subst hcs
    simp only [if_true] at hz
    have hlen : ((zs.take len).map fun n => UInt8.ofNat n.toNat).length = len := by rw [List.length_map, List.length_take]; omega
    refine ⟨some a, cap, (zs.take len).map fun n => UInt8.ofNat n.toNat, by rw [hlen], by rw [hlen]; exact hl, by unfold maxLen at hm; omega, (fun h => by cases h), ?_, ?_⟩
    rotate_left
    · rw [hlen]
      rw [hx] at hf
      have h2 := hf.len ht
      have h3 : (lits (H := H) .u8 (zs.take len)).length = len := by unfold lits; rw [List.length_map, List.length_take]; omega
      rw [h3] at h2
      have h4 : len * 1 ≤ (len + (lits (H := H) .u8 (zs.drop len)).length) * P.bytesOf e := Nat.mul_le_mul (Nat.le_add_right _ _) h1
      have : reachBytes = 140737488351232 := rfl
      omega
    by_cases h0 : len = 0
    · subst h0; exact Or.inl (by simp)
    · have hb : a.block < w.heap.size := by
        have := World.block_lt_of_cell? w (a.add 0) (hcell 0 (by omega))
        rwa [block_add] at this
      refine Or.inr ⟨a, rfl, hb, (fun h => h), fun j hj => ?_⟩
      rw [hlen] at hj
      have hjz : j < zs.length := by omega
      rw [hcell j hjz]
      have hw := hwz (zs[j]) (List.getElem_mem hjz)
      simp [Lit.wf, IntKind.min, IntKind.max, IntKind.signed, IntKind.bits] at hw
      have e1 : zs.getD j 0 = zs[j] := by simp [List.getD, List.getElem?_eq_getElem hjz]
      rw [e1]
      simp only [List.getElem_map, List.getElem_take]
      generalize zs[j] = z at hw ⊢
      congr 2
      rw [UInt8.toNat_ofNat']
      omega

end
/-! ### Rows of rows -/
section
variable {H : Type} {enc : TypeId × Value → H} {P : Program} {w : World} {fuel : Nat} {x : DataW H × List MemPlace} {v : Value}
/-- A row of rows of bytes that came in. -/
theorem rows_sized {t e t8 : TypeId} (ht : P.underlying t = some (.slice e)) (he : P.underlying e = some (.slice t8)) (h8 : P.underlying t8 = some (.int .u8)) (hC : P.cellsOf e = 1) (hc8 : P.cellsOf t8 = 1)
    (h1 : 1 ≤ P.bytesOf t8) (hf : Fits P t x.1) (h : DataW.trod enc P w 0 (fun _ => true) true fuel t [v] = some x) :
    ∃ (A : Option Addr) (cap : Nat) (rs : List RowV), v = .slice A rs.length cap ∧ rs.length ≤ 9223372036854775807 ∧ RowsAt w A rs ∧ ∀ p ∈ rs, p.t.length ≤ 140737488351232 := by
  rcases open_slice1 ht hC h with ⟨hcs, _⟩ | ⟨a, len, cap, m, n, C, D, Pl, hcs, _, hl, hm, hmm, hx, hi⟩
  · exact ⟨none, 0, [], by simpa using hcs, by decide, Or.inl rfl, fun _ h => by cases h⟩
  · simp only [List.cons.injEq, and_true] at hcs
    subst hcs
    simp only [if_true] at hmm
    subst hmm
    have each : ∀ i, i < len → ∃ p : RowV, w.cell? (a.add i) = some (.slice p.A p.t.length p.cap) ∧ p.ok w ∧ p.t.length ≤ 140737488351232 := by
      intro i hil
      obtain ⟨hc, hst⟩ := hi i (by omega)
      rw [hx] at hf
      obtain ⟨A2, cap2, l2, e2, k2, k3, k4, k5, k6⟩ := bytes_sized he h8 hc8 h1 (hf.elem ht (List.mem_map.2 ⟨i, List.mem_range.2 hil, rfl⟩)) hst
      exact ⟨⟨A2, cap2, l2⟩, by rw [hc, e2], ⟨k2, k3, k4, k5⟩, k6⟩
    obtain ⟨V, hV⟩ := choose_lt (α := RowV) (n := len) (p := fun i p => w.cell? (a.add i) = some (.slice p.A p.t.length p.cap) ∧ p.ok w ∧ p.t.length ≤ 140737488351232) each
    refine ⟨some a, m, (List.range len).map V, by simp, by simp only [List.length_map, List.length_range]; unfold maxLen at hm; omega, ?_, ?_⟩
    rotate_left
    · intro p hp
      obtain ⟨i, hi, rfl⟩ := List.mem_map.1 hp
      exact (hV i (List.mem_range.1 hi)).2.2
    by_cases hz : len = 0
    · subst hz; exact Or.inl (by simp)
    · have hb : a.block < w.heap.size := by
        have := World.block_lt_of_cell? w _ (hV 0 (by omega)).1
        rwa [block_add] at this
      obtain ⟨b, off, spot⟩ := a
      have hspot : spot = none := by
        have := World.cell?_spot (hV 0 (by omega)).1
        simpa [Addr.add] using this
      subst hspot
      refine Or.inr ⟨b, off, rfl, hb, fun i hil => ?_⟩
      simp only [List.length_map, List.length_range] at hil
      have := hV i hil
      rw [add_plain] at this
      have h3 := this.2.1
      have h4 := this.1
      simpa using And.intro h4 h3
end

end Go.Proofs.Ytdhnpbfoeohhmaa
