/- WireUnlike answers true, and makes only new memory. Conditions: wire's calls are as their contracts say; the rows lie in memory. -/
import Derived.Test.YtcnnfmooigfeiaaWireRows
import Derived.Test.YtcnnfmooigfeiaaWireRef2
import Derived.Deep.CutBlock
import Derived.Deep.DeepCutAuto
import Derived.RegionTactic
import Derived.Deep.QuietTactic
import Derived.BigQuiet
import Derived.WalkSmall
import Derived.Deep.RegionWith
namespace Go.Proofs.Ytcnnfmooigfeiaa
open Go.RowKit Go.WideShapes

theorem unlike_long (A : WireApi) (a b : Option Addr) (la ca lb cb : Nat) (n m : Int) (w : World) (hl : 12 < la ∨ 12 < lb) (ha : la ≤ 9223372036854775807) (hb : lb ≤ 9223372036854775807) :
    Calls Try.prog 3 #[.slice a la ca, .slice b lb cb, .int .u64 n, .int .u64 m] w fun e w' => e = .returned (.bool true) ∧ Below w.heap.size w w' := by
  by_cases h12 : 12 < la
  · go_enter Try.func3, Try.ntmps3
    go_wp2_with (go_at_call 8; refine (awake_any A _).mono ?_; rintro e w' ⟨rfl, hb⟩)
    go_ret
    exact ⟨rfl, hb⟩
  · have hl2 : 12 < lb := by omega
    have h12' : la ≤ 12 := by omega
    clear hl h12
    go_enter Try.func3, Try.ntmps3
    go_wp2_with (go_at_call 8; refine (awake_any A _).mono ?_; rintro e w' ⟨rfl, hb⟩)
    go_ret
    exact ⟨rfl, hb⟩

/-- What was told lies at an address outside block B. -/
def OutIs (w : World) (B : Nat) (v : Value) (l : List UInt8) : Prop :=
  ∃ A n cap, v = .slice A n cap ∧ l.length = n ∧ n ≤ cap ∧ (A = none → cap = 0) ∧ Lie8 w (fun k => k = B) A l
/-- Where the outer loop stands: k rows are written. -/
def UnRel (w0 wr : World) (n m : Int) (ta tb : List (List UInt8)) (k : Nat) : Prop :=
  Below w0.heap.size w0 wr ∧ w0.heap.size < wr.heap.size ∧ ∃ o0 o1, wr.heap[w0.heap.size]? = some (.cells #[o0, o1] 26 (0, 0)) ∧
    (1 ≤ k → OutIs wr w0.heap.size o0 (allEnc n ta) ∧ ∀ t ∈ ta, t.length ≤ 100) ∧ (2 ≤ k → OutIs wr w0.heap.size o1 (allEnc m tb) ∧ ∀ t ∈ tb, t.length ≤ 100)
/-- Which row is written in round k, with which number. -/
def PickIs (w1 wx : World) (n m : Int) (Aa Ab : Option Addr) (ca cb la lb : Nat) (ra rb : List RowV) (k : Nat) (s t : Value) : Prop :=
  Below w1.heap.size w1 wx ∧ ∃ B c q rs x, s = .slice B q c ∧ t = .int .u64 x ∧ ((k = 0 ∧ B = Aa ∧ q = la ∧ c = ca ∧ rs = ra ∧ x = n) ∨ (k = 1 ∧ B = Ab ∧ q = lb ∧ c = cb ∧ rs = rb ∧ x = m))
theorem pick0 {w1 wx : World} {n m : Int} {Aa Ab : Option Addr} {ca cb la lb : Nat} {ra rb : List RowV} (h : Below w1.heap.size w1 wx) : PickIs w1 wx n m Aa Ab ca cb la lb ra rb 0 (.slice Aa la ca) (.int .u64 n) :=
  ⟨h, _, _, _, _, _, rfl, rfl, Or.inl ⟨rfl, rfl, rfl, rfl, rfl, rfl⟩⟩
theorem pick1 {w1 wx : World} {n m : Int} {Aa Ab : Option Addr} {ca cb la lb : Nat} {ra rb : List RowV} (h : Below w1.heap.size w1 wx) : PickIs w1 wx n m Aa Ab ca cb la lb ra rb 1 (.slice Ab lb cb) (.int .u64 m) :=
  ⟨h, _, _, _, _, _, rfl, rfl, Or.inr ⟨rfl, rfl, rfl, rfl, rfl, rfl⟩⟩

theorem un_cells {w : World} {b : Nat} {u v : Value} {t : TypeId} (h : w.heap[b]? = some (.cells #[u, v] t (0, 0))) :
    w.cell? ⟨b, 0, none⟩ = some u ∧ w.cell? ⟨b, 1, none⟩ = some v ∧ w.frozen? ⟨b, 0, none⟩ = false ∧ w.frozen? ⟨b, 1, none⟩ = false := by
  refine ⟨?_, ?_, ?_, ?_⟩ <;> simp [World.cell?, World.frozen?, h]
theorem un_lt {w : World} {b : Nat} {o : Obj} (h : w.heap[b]? = some o) : b < w.heap.size := by
  rcases Nat.lt_or_ge b w.heap.size with h' | h'
  · exact h'
  · simp [Array.getElem?_eq_none h'] at h
theorem un_set0 {w : World} {b : Nat} {u v x : Value} {t : TypeId} (h : w.heap[b]? = some (.cells #[u, v] t (0, 0))) : (w.setCell ⟨b, 0, none⟩ x).heap[b]? = some (.cells #[x, v] t (0, 0)) := by
  have hlt := un_lt h
  have h' : w.heap[b] = .cells #[u, v] t (0, 0) := by simpa [Array.getElem?_eq_getElem hlt] using h
  show (w.heap.modify b _)[b]? = _
  rw [Array.getElem?_eq_getElem (by simpa using hlt), Array.getElem_modify_self, h']
  rfl
theorem un_set1 {w : World} {b : Nat} {u v x : Value} {t : TypeId} (h : w.heap[b]? = some (.cells #[u, v] t (0, 0))) : (w.setCell ⟨b, 1, none⟩ x).heap[b]? = some (.cells #[u, x] t (0, 0)) := by
  have hlt := un_lt h
  have h' : w.heap[b] = .cells #[u, v] t (0, 0) := by simpa [Array.getElem?_eq_getElem hlt] using h
  show (w.heap.modify b _)[b]? = _
  rw [Array.getElem?_eq_getElem (by simpa using hlt), Array.getElem_modify_self, h']
  rfl
theorem out_new {w3 : World} {wb O : Nat} {v x : Value} {l : List UInt8} {off : Nat} (hown : w3.ownsRow wb 5 1 v l.length (cells8 l)) (hO : O < wb) : OutIs (w3.setCell ⟨O, off, none⟩ x) O v l := by
  obtain ⟨A, cap, rfl, _, hcap, hnil, hlie⟩ := lie8_own (F := fun k => k = O) hown (fun k hk e => by have := (hown.lt k hk).1; omega)
  have hc : Chg (fun k => k = O) w3 (w3.setCell ⟨O, off, none⟩ x) := Chg.setCell (p := ⟨O, off, none⟩) (F := fun k => k = O) (Chg.refl _ _) (fun _ => rfl) x
  exact ⟨A, _, cap, rfl, rfl, hcap, hnil, hlie.chg hc (fun _ _ h => h)⟩
theorem out_old {wr w3 : World} {O off : Nat} {v x : Value} {l : List UInt8} (h : OutIs wr O v l) (hb : Below wr.heap.size wr w3) : OutIs (w3.setCell ⟨O, off, none⟩ x) O v l := by
  obtain ⟨A, n, cap, rfl, h1, h2, h3, hlie⟩ := h
  have hc : Chg (fun k => k = O) w3 (w3.setCell ⟨O, off, none⟩ x) := Chg.setCell (p := ⟨O, off, none⟩) (F := fun k => k = O) (Chg.refl _ _) (fun _ => rfl) x
  exact ⟨A, n, cap, rfl, h1, h2, h3, (hlie.below hb).chg hc (fun _ _ h => h)⟩
theorem un_block {w0 wr w3 : World} {n m : Int} {ta tb : List (List UInt8)} {k : Nat} (h : UnRel w0 wr n m ta tb k) (hb : Below wr.heap.size wr w3) :
    ∃ o0 o1, w3.heap[w0.heap.size]? = some (.cells #[o0, o1] 26 (0, 0)) := by
  obtain ⟨_, h2, o0, o1, h3, _⟩ := h
  exact ⟨o0, o1, (hb.block _ h2).trans h3⟩
theorem un_step0 {w0 wr w3 wb : World} {n m : Int} {ta tb : List (List UInt8)} {v : Value} {l : List UInt8} (h : UnRel w0 wr n m ta tb 0) (hb : Below wr.heap.size wr w3) (hown : w3.ownsRow wb.heap.size 5 1 v l.length (cells8 l)) (hbb : wr.heap.size ≤ wb.heap.size)
    (hl : l = allEnc n ta) (h100 : ∀ t ∈ ta, t.length ≤ 100) : UnRel w0 (w3.setCell ⟨w0.heap.size, 0, none⟩ v) n m ta tb 1 := by
  obtain ⟨h1, h2, o0, o1, h3, _⟩ := h
  subst hl
  exact ⟨(h1.trans (hb.mono h1.size)).setCell (Nat.le_refl _) _, by have := hb.size; simp [World.setCell]; omega, v, o1, un_set0 ((hb.block _ h2).trans h3), fun _ => ⟨out_new hown (by omega), h100⟩, fun h => by omega⟩
theorem un_step1 {w0 wr w3 wb : World} {n m : Int} {ta tb : List (List UInt8)} {v : Value} {l : List UInt8} (h : UnRel w0 wr n m ta tb 1) (hb : Below wr.heap.size wr w3) (hown : w3.ownsRow wb.heap.size 5 1 v l.length (cells8 l)) (hbb : wr.heap.size ≤ wb.heap.size)
    (hl : l = allEnc m tb) (h100 : ∀ t ∈ tb, t.length ≤ 100) : UnRel w0 (w3.setCell ⟨w0.heap.size, 1, none⟩ v) n m ta tb 2 := by
  obtain ⟨h1, h2, o0, o1, h3, h4, _⟩ := h
  subst hl
  exact ⟨(h1.trans (hb.mono h1.size)).setCell (Nat.le_refl _) _, by have := hb.size; simp [World.setCell]; omega, o0, v, un_set1 ((hb.block _ h2).trans h3), fun _ => ⟨out_old (h4 (Nat.le_refl _)).1 hb, (h4 (Nat.le_refl _)).2⟩, fun _ => ⟨out_new hown (by omega), h100⟩⟩

theorem un_cond {la lb : Nat} {n m : Int} {q1 q2 q3 : Bool} (e1 : ((la : Int) == (lb : Int)) = q1) (e2 : (n == m) = q2) (e3 : ((la : Int) == 0) = q3) : decide (la = lb ∧ (n = m ∨ la = 0)) = (q1 && (q2 || q3)) := by
  subst e1; subst e2; subst e3
  rw [Bool.eq_iff_iff]
  simp only [decide_eq_true_eq, Bool.and_eq_true, Bool.or_eq_true, beq_iff_eq]
  omega

theorem lie8_heap {w w' : World} {A : Option Addr} {l : List UInt8} (h : Lie8 w (fun _ => False) A l) (e : w.heap = w'.heap) : Lie8 w' (fun _ => False) A l := by
  rcases h with h | ⟨a, hA, hb, hF, hc⟩
  · exact Or.inl h
  · exact Or.inr ⟨a, hA, by rw [← e]; exact hb, hF, fun j hj => by rw [← hc j hj]; simp [World.cell?, e]⟩
theorem no_len {w : World} {A : Option Addr} {cap : Nat} {t : List UInt8} (h : RowV.ok w ⟨A, cap, t⟩) (hA : A = none) : t.length = 0 := by
  have h1 := h.1
  have h2 := h.2.2.1 hA
  simp only at h1 h2
  omega
theorem un_lt' {w : World} {b off : Nat} {v : Value} (h : w.cell? ⟨b, off, none⟩ = some v) : b < w.heap.size := World.block_lt_of_cell? w _ h
theorem un_strings {s t : List UInt8} {C : Prop} [Decidable C] {q : Bool} (h : s = t ↔ C) (hq : decide C = q) : ((⟨s.toArray⟩ : ByteArray).toList == (⟨t.toArray⟩ : ByteArray).toList) = q := by
  subst hq
  rw [ByteArray.toList_eq, ByteArray.toList_eq, Bool.eq_iff_iff]
  simpa using h
theorem take_step {n : Nat} (ra rb : List RowV) (ha : n < ra.length) (hb : n < rb.length) :
    decide ((ra.map (·.t)).take (n + 1) = (rb.map (·.t)).take (n + 1)) = (decide ((ra.map (·.t)).take n = (rb.map (·.t)).take n) && decide (ra[n].t = rb[n].t)) := by
  rw [List.take_succ_eq_append_getElem (by simpa using ha), List.take_succ_eq_append_getElem (by simpa using hb), Bool.eq_iff_iff]
  simp only [decide_eq_true_eq, Bool.and_eq_true, List.getElem_map]
  constructor
  · intro h
    obtain ⟨h1, h2⟩ := List.append_inj h (by simp; omega)
    exact ⟨h1, by simpa using h2⟩
  · rintro ⟨h1, h2⟩; rw [h1, h2]
theorem un_end {la lb k : Nat} {ra rb : List RowV} {n m : Int} {q0 q1 : Bool} (h1 : ra.length = la) (h2 : rb.length = lb) (h3 : decide (la = lb ∧ (n = m ∨ la = 0)) = q0) (h4 : (q0 && decide ((ra.map (·.t)).take k = (rb.map (·.t)).take k)) = q1) (hk : (la ≤ k ∧ k ≤ lb) ∨ (lb ≤ k ∧ k ≤ la)) :
    q1 = decide (ra.map (·.t) = rb.map (·.t) ∧ (n = m ∨ ra.map (·.t) = [])) := by
  subst h3; subst h4; subst h1; subst h2
  rw [Bool.eq_iff_iff]
  simp only [Bool.and_eq_true, decide_eq_true_eq, List.map_eq_nil_iff, List.length_eq_zero_iff]
  constructor
  · rintro ⟨⟨hl, hn⟩, ht⟩
    rw [List.take_of_length_le (by simp; omega), List.take_of_length_le (by simp; omega)] at ht
    exact ⟨ht, hn⟩
  · rintro ⟨ht, hn⟩
    have := congrArg List.length ht
    simp only [List.length_map] at this
    exact ⟨⟨this, hn⟩, by rw [ht]⟩

set_option maxRecDepth 100000 in
set_option maxHeartbeats 8000000 in
theorem unlike_some (A : WireApi) (Aa Ab : Option Addr) (ca cb : Nat) (ra rb : List RowV) (n m : Int) (w : World) (hla : ra.length ≤ 12) (hlb : rb.length ≤ 12) (hn : Word n) (hm : Word m) (ha : RowsAt w Aa ra) (hb : RowsAt w Ab rb) :
    Calls Try.prog 3 #[.slice Aa ra.length ca, .slice Ab rb.length cb, .int .u64 n, .int .u64 m] w fun e w' => e = .returned (.bool true) ∧ Below w.heap.size w w' := by
  obtain ⟨la, hla'⟩ : ∃ k, ra.length = k := ⟨_, rfl⟩
  obtain ⟨lb, hlb'⟩ : ∃ k, rb.length = k := ⟨_, rfl⟩
  rw [hla'] at hla; rw [hlb'] at hlb
  rw [hla', hlb']
  have HLA := Lib.hid hla'; have HLB := Lib.hid hlb'; have HA := Lib.hid ha; have HB := Lib.hid hb; have HN := Lib.hid hn; have HM := Lib.hid hm
  clear hla' hlb' ha hb hn hm
  have hstart : UnRel w (w.alloc (.cells #[.slice none 0 0, .slice none 0 0] 26)) n m (ra.map (·.t)) (rb.map (·.t)) 0 :=
    ⟨(Below.refl _ _).alloc (Nat.le_refl _) _, by simp, _, _, heap_alloc_new w _, fun h => by omega, fun h => by omega⟩
  have HS := Lib.hid hstart
  clear hstart
  go_enter Try.func3, Try.ntmps3
  go_upto_block 0 with fail
  go_cut [10] (fun _ wx => UnRel w wx n m (ra.map (·.t)) (rb.map (·.t)) 2)
  case first =>
    go_wp2_with fail
    go_loopw [10] (fun i wr => ∃ k : Nat, k ≤ 2 ∧ i = .int .i64 k ∧ UnRel w wr n m (ra.map (·.t)) (rb.map (·.t)) k) (fun i _ => 2 - (intOf i).toNat)
    case atStart => exact ⟨0, by omega, rfl, HS.out⟩
    case round =>
      obtain ⟨k, hk, rfl, hun⟩ := hrel
      obtain ⟨wo, rfl⟩ : ∃ wo : World, wo = wr := ⟨_, rfl⟩
      have HU := Lib.hid hun
      clear hun
      by_cases hk2 : k < 2
      · go_wp2_with fail
        refine (st_new A wo wo (Below.refl _ _)).mono ?_
        rintro e w1 ⟨p, rfl, h1⟩
        go_upto_region 10 with fail
        go_cut [12, 13] (fun s12 s13 wx => PickIs w1 wx n m Aa Ab ca cb la lb ra rb k s12 s13)
        case first =>
          have hk01 : k = 0 ∨ k = 1 := by omega
          rcases hk01 with rfl | rfl
          · go_region
            all_goals
              go_wp2_with fail
              go_meet
              exact pick0 (((Below.refl _ _).alloc (Nat.le_refl _) _).alloc (by simp) _).drew
          · go_region
            all_goals
              go_wp2_with fail
              go_meet
              exact pick1 (((Below.refl _ _).alloc (Nat.le_refl _) _).alloc (by simp) _).drew
        case rest =>
          obtain ⟨hbp, B, c, q, rs, x, rfl, rfl, hwhich⟩ := hcut
          obtain ⟨hq, hq12, hx, hrow⟩ : rs.length = q ∧ q ≤ 12 ∧ Word x ∧ RowsAt w B rs := by
            rcases hwhich with ⟨_, rfl, rfl, _, rfl, rfl⟩ | ⟨_, rfl, rfl, _, rfl, rfl⟩
            · exact ⟨HLA.out, hla, HN.out, HA.out⟩
            · exact ⟨HLB.out, hlb, HM.out, HB.out⟩
          have h2 := h1.more hbp
          have HW := Lib.hid hwhich; have HQ := Lib.hid hq; have HX := Lib.hid hx; have HR := Lib.hid hrow
          clear h1 hbp hwhich hq hx hrow
          go_wp2_with fail
          refine (h2.int (q : Int) (by simp)).mono ?_
          rintro e w2 ⟨rfl, h3⟩
          have H3 := Lib.hid h3
          clear h2 h3
          go_wp2_with fail
          go_loopw [51] (fun i wx => ∃ (i' : Nat) (l : List UInt8), i' ≤ q ∧ i = .int .i64 i' ∧ l = num8 (asU q) ++ rowEnc x ((rs.map (·.t)).take i') ∧ l.length ≤ 8 + i' * 116 ∧ (∀ t ∈ (rs.map (·.t)).take i', t.length ≤ 100) ∧ WSt A wo wx (.pointer (some p)) l) (fun i _ => q - (intOf i).toNat)
          case atStart => exact ⟨0, num8 (asU q), by omega, rfl, by simp [rowEnc], by rw [num8_length]; omega, by simp, by simpa using H3.out⟩
          case round =>
            obtain ⟨i, l, hi, rfl, hl, hll, h100, hst⟩ := hrel
            have HL := Lib.hid hl; have H100 := Lib.hid h100
            clear hl h100
            by_cases hiq : i < q
            · have hrows : RowsAt wr B rs := HR.out.below (HU.out.1.trans (hst.below.mono HU.out.1.size))
              have hir : i < rs.length := by rw [HQ.out]; exact hiq
              obtain ⟨b, off, rfl, hbw, hcells⟩ : ∃ b off : Nat, B = some ⟨b, off, none⟩ ∧ b < wr.heap.size ∧ ∀ i (h : i < rs.length), wr.cell? ⟨b, off + i, none⟩ = some (.slice rs[i].A rs[i].t.length rs[i].cap) ∧ rs[i].ok w := by
                rcases HR.out with h | ⟨b, off, hB, hlt, hc⟩
                · rw [h] at hir; simp at hir
                · have hbel := HU.out.1.trans (hst.below.mono HU.out.1.size)
                  exact ⟨b, off, hB, Nat.lt_of_lt_of_le hlt hbel.size, fun i hi => ⟨(hbel.cell (p := ⟨b, off + i, none⟩) hlt).trans (hc i hi).1, (hc i hi).2⟩⟩
              obtain ⟨hcell, hok⟩ := hcells i hir
              obtain ⟨k1, k2, k3, k4⟩ := hok
              have hsn : rowEnc x ((rs.map (·.t)).take (i + 1)) = rowEnc x ((rs.map (·.t)).take i) ++ (text8 rs[i].t ++ num8 x) := by
                rw [List.take_succ_eq_append_getElem (by simpa using hir), rowEnc_snoc, List.getElem_map]
              have hto : rs[i].t.length ≤ 100 → ∀ t ∈ (rs.map (·.t)).take (i + 1), t.length ≤ 100 := by
                intro ht u hu
                rw [List.take_succ_eq_append_getElem (by simpa using hir), List.mem_append] at hu
                rcases hu with hu | hu
                · exact H100.out u hu
                · rw [List.mem_singleton] at hu; subst hu; rw [List.getElem_map]; exact ht
              have HSN := Lib.hid hsn; have HTO := Lib.hid hto
              have hwo : Below w.heap.size w wo := HU.out.1
              have hl4 : Lie8 wo (fun _ => False) rs[i].A rs[i].t := k4.below hwo
              clear hsn hto hcells k4
              generalize rs[i] = rv at *
              obtain ⟨rA, rcap, rt⟩ := rv
              simp only at hcell k1 k2 k3 hl4 HSN HTO
              have HC := Lib.hid hcell
              have HL4 := Lib.hid hl4; have HK3 := Lib.hid k3; have HWO := Lib.hid hwo
              clear hl4 k3 hwo
              go_wp2_with fail
              · refine (awake_any A _).mono ?_
                rintro e w2 ⟨rfl, hb2⟩
                go_wp2
                go_ret
                exact ⟨rfl, HWO.out.trans ((hst.below.trans (hb2.mono hst.below.size)).mono HWO.out.size)⟩
              · have ht100 : rt.length ≤ 100 := by omega
                refine (hst.text_old rA rt.length rcap rt (by omega) rfl (by omega) k1 HK3.out HL4.out).mono ?_
                rintro e w2 ⟨rfl, h2⟩
                go_wp2_with fail
                refine (h2.num x HX.out (by rw [List.length_append, text8_length]; omega)).mono ?_
                rintro e w3 ⟨rfl, h3⟩
                have H3' := Lib.hid h3
                have hle : ((l ++ text8 rt) ++ num8 x).length ≤ 8 + (i + 1) * 116 := by rw [List.length_append, List.length_append, text8_length, num8_length]; omega
                have HLE := Lib.hid hle
                clear h2 h3 hle
                go_wp2_with fail
                go_roundw
                case rel => exact ⟨i + 1, _, by omega, by go_num, by rw [HSN.out, HL.out]; simp only [List.append_assoc], HLE.out, HTO.out ht100, H3'.out⟩
                case measure => simp [intOf]; omega
            · obtain rfl : i = q := by omega
              go_wp2_with fail
              refine (hst.bytes (by omega)).mono ?_
              rintro e w3 ⟨v, rfl, hfr, hst3⟩
              obtain ⟨A3, cap3, rfl, _, _, _, _⟩ := lie8_own (F := fun _ => False) hfr.1 (fun _ _ h => h)
              obtain ⟨o0, o1, hO⟩ := un_block HU.out hst3.below
              obtain ⟨c0, c1, f0, f1⟩ := un_cells hO
              have HF := Lib.hid hfr; have HW3 := Lib.hid hst3.below; have HSZ := Lib.hid hst.below.size
              have hall : l = allEnc x (rs.map (·.t)) := by
                rw [HL.out, allEnc, List.take_of_length_le (by rw [List.length_map, HQ.out]; exact Nat.le_refl _), List.length_map, HQ.out]
              have h100 : ∀ t ∈ rs.map (·.t), t.length ≤ 100 := fun t ht => H100.out t (by rw [List.take_of_length_le (by rw [List.length_map, HQ.out]; exact Nat.le_refl _)]; exact ht)
              have HALL := Lib.hid hall; have HH := Lib.hid h100
              clear hO hfr hst3 hst hall h100
              rcases HW.out with ⟨rfl, rfl, rfl, rfl, rfl, rfl⟩ | ⟨rfl, rfl, rfl, rfl, rfl, rfl⟩
              · go_wp2
                go_roundw
                case rel => exact ⟨1, by omega, rfl, un_step0 HU.out HW3.out HF.out.1 HSZ.out HALL.out HH.out⟩
                case measure => decide
              · go_wp2
                go_roundw
                case rel => exact ⟨2, by omega, rfl, un_step1 HU.out HW3.out HF.out.1 HSZ.out HALL.out HH.out⟩
                case measure => decide
      · obtain rfl : k = 2 := by omega
        go_wp2_with fail
        go_meet
        exact HU.out
  case rest =>
    obtain ⟨hb0, _, o0, o1, hO, h1, h2⟩ := hcut
    obtain ⟨⟨A0, n0, p0, rfl, hl0, hc0, hnil0, hlie0⟩, h100a⟩ := h1 (by omega)
    obtain ⟨⟨A1, n1, p1, rfl, hl1, hc1, hnil1, hlie1⟩, h100b⟩ := h2 (by omega)
    obtain ⟨c0, c1, _, _⟩ := un_cells hO
    have HB0 := Lib.hid hb0
    have HL0 := Lib.hid hl0; have HN0 := Lib.hid (fun h => Nat.le_zero.1 (hnil0 h ▸ hc0) : A0 = none → n0 = 0); have HI0 := Lib.hid hlie0
    have HL1 := Lib.hid hl1; have HN1 := Lib.hid (fun h => Nat.le_zero.1 (hnil1 h ▸ hc1) : A1 = none → n1 = 0); have HI1 := Lib.hid hlie1
    have HEQ := Lib.hid (allEnc_inj HN.out HM.out h100a h100b (by rw [List.length_map, HLA.out]; exact hla) (by rw [List.length_map, HLB.out]; exact hlb))
    clear hb0 hO h1 h2 hl0 hc0 hnil0 hlie0 hl1 hc1 hnil1 hlie1 h100a h100b HS
    obtain ⟨w2, rfl⟩ : ∃ w2 : World, w2 = wc := ⟨_, rfl⟩
    go_upto_region 21 with fail
    go_cut [15] (fun s15 wx => s15 = .bool (decide (la = lb ∧ (n = m ∨ la = 0))) ∧ wx = w2)
    case first =>
      obtain ⟨q1, e1⟩ : ∃ q, ((la : Int) == (lb : Int)) = q := ⟨_, rfl⟩
      obtain ⟨q2, e2⟩ : ∃ q, (n == m) = q := ⟨_, rfl⟩
      obtain ⟨q3, e3⟩ : ∃ q, ((la : Int) == 0) = q := ⟨_, rfl⟩
      have HD := Lib.hid (un_cond e1 e2 e3)
      rcases q1 with _ | _ <;> rcases q2 with _ | _ <;> rcases q3 with _ | _
      all_goals
        go_wp2_with fail
        go_meet
        exact ⟨congrArg Value.bool HD.out.symm, rfl⟩
    case rest =>
      obtain ⟨rfl, rfl⟩ := hcut
      obtain ⟨w3, rfl⟩ : ∃ w3 : World, w3 = wc := ⟨_, rfl⟩
      obtain ⟨q0, hq0⟩ : ∃ q, decide (la = lb ∧ (n = m ∨ la = 0)) = q := ⟨_, rfl⟩
      rw [hq0]
      have HQ0 := Lib.hid hq0
      clear hq0
      have HRA : Hid (RowsAt w3 Aa ra) := Lib.hid (HA.out.below HB0.out)
      have HRB : Hid (RowsAt w3 Ab rb) := Lib.hid (HB.out.below HB0.out)
      go_upto_block 4 with fail
      go_cut [15, 16] (fun s15 _ wx => s15 = .bool (decide (ra.map (·.t) = rb.map (·.t) ∧ (n = m ∨ ra.map (·.t) = []))) ∧ Below w3.heap.size w3 wx)
      case first =>
        go_wp2_with fail
        go_loopw [15, 16] (fun s i wr => ∃ k : Nat, k ≤ la ∧ k ≤ lb ∧ i = .int .i64 k ∧ s = .bool (q0 && decide ((ra.map (·.t)).take k = (rb.map (·.t)).take k)) ∧ Below w3.heap.size w3 wr) (fun _ i _ => la - (intOf i).toNat)
        case atStart => exact ⟨0, by omega, by omega, rfl, by simp, Below.refl _ _⟩
        case round =>
          obtain ⟨k, hka, hkb, rfl, rfl, hbw⟩ := hrel
          obtain ⟨q1, hq1⟩ : ∃ q, (q0 && decide ((ra.map (·.t)).take k = (rb.map (·.t)).take k)) = q := ⟨_, rfl⟩
          rw [hq1]
          have HQ1 := Lib.hid hq1; have HBW := Lib.hid hbw
          clear hq1 hbw
          by_cases hk1 : k < la
          · by_cases hk2 : k < lb
            · have hka' : k < ra.length := by rw [HLA.out]; exact hk1
              have hkb' : k < rb.length := by rw [HLB.out]; exact hk2
              obtain ⟨ba, oa, rfl, hba, hca⟩ : ∃ b off : Nat, Aa = some ⟨b, off, none⟩ ∧ b < w3.heap.size ∧ ∀ i (h : i < ra.length), w3.cell? ⟨b, off + i, none⟩ = some (.slice ra[i].A ra[i].t.length ra[i].cap) ∧ ra[i].ok w3 := by
                rcases HRA.out with h | h
                · rw [h] at hka'; simp at hka'
                · exact h
              obtain ⟨bb, ob, rfl, hbb, hcb⟩ : ∃ b off : Nat, Ab = some ⟨b, off, none⟩ ∧ b < w3.heap.size ∧ ∀ i (h : i < rb.length), w3.cell? ⟨b, off + i, none⟩ = some (.slice rb[i].A rb[i].t.length rb[i].cap) ∧ rb[i].ok w3 := by
                rcases HRB.out with h | h
                · rw [h] at hkb'; simp at hkb'
                · exact h
              obtain ⟨ea, hoa⟩ := hca k hka'
              obtain ⟨eb, hob⟩ := hcb k hkb'
              have HNX := Lib.hid (take_step (n := k) ra rb hka' hkb')
              have HOA := Lib.hid (hoa.below HBW.out); have HOB := Lib.hid (hob.below HBW.out)
              have ea' := (HBW.out.cell (p := ⟨ba, oa + k, none⟩) hba).trans ea
              have eb' := (HBW.out.cell (p := ⟨bb, ob + k, none⟩) hbb).trans eb
              clear hca hcb ea eb hoa hob
              generalize ra[k] = va at *
              generalize rb[k] = vb at *
              obtain ⟨A2, cap2, t2⟩ := va
              obtain ⟨B2, cap3, t3⟩ := vb
              simp only at ea' eb' HNX
              rcases q1 with _ | _
              · go_wp2_with fail
                go_quiet (fail)
                go_wp2_with fail
                go_roundw
                case rel => exact ⟨k + 1, hk1, hk2, by go_num, by rw [HNX.out, ← Bool.and_assoc, HQ1.out]; rfl, below_drewN HBW.out _⟩
                case measure => simp [intOf]; omega
              · have HS : Hid (∀ (n : Nat), Calls Try.prog 14 #[.slice A2 t2.length cap2, .slice B2 t3.length cap3] (wr.drewN n) fun e w'' => e = .returned (.bool (decide (t2 = t3))) ∧ w'' = wr.drewN n) :=
                  Lib.hid (fun n => (rsame_any A2 B2 _ _ cap2 cap3 t2 t3 (wr.drewN n) (fun _ => False) rfl (no_len HOA.out) (lie8_heap HOA.out.2.2.2 rfl) rfl (no_len HOB.out) (lie8_heap HOB.out.2.2.2 rfl)).mono (fun _ _ h => ⟨h.1, h.2.symm⟩))
                go_wp2_with fail
                go_quiet ((go_at_call 14; exact Calls.quiet_of_same (HS.out _)))
                go_wp2_with fail
                go_roundw
                case rel => exact ⟨k + 1, hk1, hk2, by go_num, by rw [HNX.out, ← Bool.and_assoc, HQ1.out]; rfl, below_drewN HBW.out _⟩
                case measure => simp [intOf]; omega
            · go_wp2_with fail
              go_meet
              exact ⟨congrArg Value.bool (un_end HLA.out HLB.out HQ0.out HQ1.out (by omega)), HBW.out⟩
          · go_wp2_with fail
            go_meet
            exact ⟨congrArg Value.bool (un_end HLA.out HLB.out HQ0.out HQ1.out (by omega)), HBW.out⟩
      case rest =>
        obtain ⟨rfl, hb3⟩ := hcut
        have hOlt := un_lt' c0
        have hOB := HB0.out.trans (hb3.mono HB0.out.size)
        have d0 := (hb3.cell (p := ⟨w.heap.size, 0, none⟩) hOlt).trans c0
        have d1 := (hb3.cell (p := ⟨w.heap.size, 1, none⟩) hOlt).trans c1
        have k0 := conv8 (P := Try.prog) (src := 25) (dst := 9) (cap := p0) Try.underlying25 Try.underlying5 Try.underlying9 HL0.out HN0.out (HI0.out.below hb3)
        have k1 := conv8 (P := Try.prog) (src := 25) (dst := 9) (cap := p1) Try.underlying25 Try.underlying5 Try.underlying9 HL1.out HN1.out (HI1.out.below hb3)
        obtain ⟨q, hq⟩ : ∃ q, decide (ra.map (·.t) = rb.map (·.t) ∧ (n = m ∨ ra.map (·.t) = [])) = q := ⟨_, rfl⟩
        rw [hq]
        have hE := un_strings HEQ.out hq
        generalize (⟨(allEnc n (ra.map (·.t))).toArray⟩ : ByteArray) = S0 at k0 hE
        generalize (⟨(allEnc m (rb.map (·.t))).toArray⟩ : ByteArray) = S1 at k1 hE
        have HOB := Lib.hid hOB
        clear hq hb3 c0 c1 hOlt hOB
        rcases q with _ | _
        · go_wp2_with fail
          refine (awake_any A _).mono ?_
          rintro e w4 ⟨rfl, hb4⟩
          go_wp2
          go_ret
          exact ⟨rfl, HOB.out.trans (hb4.mono HOB.out.size)⟩
        · go_wp2_with fail
          refine (awake_any A _).mono ?_
          rintro e w4 ⟨rfl, hb4⟩
          go_wp2
          go_ret
          exact ⟨rfl, HOB.out.trans (hb4.mono HOB.out.size)⟩
end Go.Proofs.Ytcnnfmooigfeiaa
