/- WireBack answers true, and makes only new memory. Conditions: wire's calls are as their contracts say; the row of parts lies in memory. -/
import Derived.Test.YtcnnfmooigfeiaaWirePst
import Derived.Deep.CutBlock
import Derived.Deep.RegionHeld3
namespace Go.Proofs.Ytcnnfmooigfeiaa
open Go.RowKit Go.WideShapes

theorem mask65535 (n : Int) : bits .and .i64 n 65535 = n % 65536 := by
  have h3 : (BitVec.ofInt 64 65535).toNat = 2 ^ 16 - 1 := by decide
  have key : (BitVec.ofInt 64 n &&& BitVec.ofInt 64 65535).toNat = (n % ((2 ^ 64 : Nat) : Int)).toNat % 2 ^ 16 := by
    rw [BitVec.toNat_and, BitVec.toNat_ofInt, h3, Nat.and_two_pow_sub_one_eq_mod]
  show IntKind.i64.wrap ((BitVec.ofInt 64 n &&& BitVec.ofInt 64 65535).toNat : Nat) = n % 65536
  rw [key, IntKind.wrap_i64]
  omega
/-- What the reader is given in one round: bytes in memory, how they stand to what was written, and how the round must end. -/
def BackGiven (w0 w : World) (gb gc nc capc : Nat) (l E : List UInt8) (full : Bool) (tail : List UInt8) (dn : Bool) : Prop :=
  ∃ cl : List UInt8, cl.length = nc ∧ nc ≤ capc ∧ nc ≤ 7000 ∧ Lie8 w (fun _ => False) (some ⟨gc, 0, none⟩) cl ∧ BackInv full tail E true (some cl) ∧ Below w0.heap.size w0 w ∧ Lie8 w (fun _ => False) (some ⟨gb, 0, none⟩) l ∧
    (∀ same s, BackInv full tail [] same s → decide (s = some []) = dn ∧ (full = true → same = true))
theorem back_given0 {w0 w : World} {gb gc nc capc : Nat} {l E : List UInt8} (hE : l = E) (h1 : l.length = nc) (h2 : nc ≤ capc) (h3 : nc ≤ 7000) (h4 : Lie8 w (fun _ => False) (some ⟨gc, 0, none⟩) l) (h5 : Below w0.heap.size w0 w) (h6 : Lie8 w (fun _ => False) (some ⟨gb, 0, none⟩) l) :
    BackGiven w0 w gb gc nc capc l E true [] true := by
  subst hE
  refine ⟨l, h1, h2, h3, h4, ⟨rfl, by simp⟩, h5, h6, fun same s h => ?_⟩
  rcases back_end h with ⟨_, h1, h2⟩ | ⟨h, _⟩
  · subst h2; exact ⟨by decide, fun _ => h1⟩
  · cases h
theorem back_given1 {w0 w : World} {gb gc nc capc : Nat} {l E : List UInt8} (hE : l = E) (h1 : (l ++ [0]).length = nc) (h2 : nc ≤ capc) (h3 : nc ≤ 7000) (h4 : Lie8 w (fun _ => False) (some ⟨gc, 0, none⟩) (l ++ [0])) (h5 : Below w0.heap.size w0 w) (h6 : Lie8 w (fun _ => False) (some ⟨gb, 0, none⟩) l) :
    BackGiven w0 w gb gc nc capc l E true [0] false := by
  subst hE
  refine ⟨l ++ [0], h1, h2, h3, h4, ⟨rfl, rfl⟩, h5, h6, fun same s h => ?_⟩
  rcases back_end h with ⟨_, h1, h2⟩ | ⟨h, _⟩
  · subst h2; exact ⟨by decide, fun _ => h1⟩
  · cases h
theorem back_given2 {w0 w : World} {gb gc capc m : Nat} {l E : List UInt8} (hE : l = E) (hm : m < l.length) (h2 : m ≤ capc) (h3 : m ≤ 7000) (h4 : Lie8 w (fun _ => False) (some ⟨gc, 0, none⟩) l) (h5 : Below w0.heap.size w0 w) (h6 : Lie8 w (fun _ => False) (some ⟨gb, 0, none⟩) l) :
    BackGiven w0 w gb gc m capc l E false [] false := by
  subst hE
  have hl : (l.take m).length = m := by rw [List.length_take]; omega
  refine ⟨l.take m, hl, h2, h3, ?_, Or.inr ⟨rfl, _, rfl, by rw [hl]; exact hm, by rw [hl]⟩, h5, h6, fun same s h => ?_⟩
  · have := lie8_part (i := 0) (k := m) h4 (Below.refl _ w)
    simpa using this
  · rcases back_end h with ⟨h, _⟩ | ⟨_, h2⟩
    · cases h
    · subst h2; exact ⟨by decide, fun h => by cases h⟩
/-- What the first loop leaves. -/
def BackFirst (A : WireApi) (w0 w : World) (p v : Value) (ps : List PartV) : Prop :=
  ∃ l : List UInt8, l = encs (ps.take 20) ∧ l.length ≤ 6160 ∧ (∀ j (h : j < ps.length), j < 20 → ps[j].t.length ≤ 300) ∧ PSt A w0 w p l v l

set_option maxRecDepth 100000 in
set_option maxHeartbeats 40000000 in
theorem back_some (A : WireApi) (b off cap : Nat) (ps : List PartV) (at_ : Int) (w : World) (hlen : ps.length ≤ 9223372036854775807) (hps0 : 0 < ps.length) (hb : b < w.heap.size)
    (hp : ∀ i (h : i < ps.length), w.cell? ⟨b, off + i * 3, none⟩ = some (.int .i64 ps[i].kind) ∧ w.cell? ⟨b, off + i * 3 + 1, none⟩ = some (.int .u64 ps[i].n) ∧ w.cell? ⟨b, off + i * 3 + 2, none⟩ = some (.slice ps[i].A ps[i].t.length ps[i].cap) ∧ ps[i].ok w) :
    Calls Try.prog 6 #[.slice (some ⟨b, off, none⟩) ps.length cap, .int .i64 at_] w fun e w' => e = .returned (.bool true) ∧ Below w.heap.size w w' := by
  obtain ⟨i0, hi, hz0, hz1, hz2⟩ := info_parts u8_info
  have HP := Lib.hid hp; clear hp
  go_enter Try.func6, Try.ntmps6
  go_wp2_with fail
  refine (st_new A w w (Below.refl _ _)).mono ?_
  rintro e w1 ⟨p, rfl, h1⟩
  have h1p := PSt.start h1
  go_upto_block 0 with fail
  go_cut [6] (fun s6 wx => BackFirst A w wx (.pointer (some p)) s6 ps)
  case first =>
    go_wp2_with fail
    go_loopw [6, 7] (fun sv i wr => ∃ (k : Nat) (l : List UInt8), k ≤ ps.length ∧ k ≤ 20 ∧ l.length ≤ k * 308 ∧ l = encs (ps.take k) ∧ i = .int .i64 k ∧ (∀ j (h : j < ps.length), j < k → ps[j].t.length ≤ 300) ∧ PSt A w wr (.pointer (some p)) l sv l) (fun _ i _ => 20 - (intOf i).toNat)
    case atStart => exact ⟨0, [], by omega, by omega, by simp, rfl, rfl, fun j h hj => by omega, h1p⟩
    case round =>
      obtain ⟨k, l, hk, hk20, hl, hle, rfl, ht300, hst⟩ := hrel
      have HLE := Lib.hid hle; have HT := Lib.hid ht300; clear hle ht300
      by_cases hgo : k < ps.length ∧ k < 20
      · obtain ⟨hkn, hk2⟩ := hgo
        obtain ⟨c0, c1, c2, hok⟩ := HP.out k hkn
        obtain ⟨b0, b1, hw, hcap, hmax, hnil, hlie⟩ := hok
        have hnext : encs (ps.take (k + 1)) = encs (ps.take k) ++ enc ps[k] := by rw [List.take_succ_eq_append_getElem hkn, encs_snoc]
        have htn : ps[k].t.length ≤ 300 → ∀ j (h : j < ps.length), j < k + 1 → ps[j].t.length ≤ 300 := fun h j hj hjk => by
          by_cases e : j = k
          · subst e; exact h
          · exact HT.out j hj (by omega)
        rw [← HLE.out] at hnext
        have HNX := Lib.hid hnext; have HTN := Lib.hid htn
        clear hnext htn
        generalize ps[k] = pt at c0 c1 c2 b0 b1 hw hcap hmax hnil hlie HNX HTN
        obtain ⟨kind, n, pA, pcap, t⟩ := pt
        simp only at c0 c1 c2 b0 b1 hw hcap hmax hnil hlie HTN
        have hm3 := mask3 kind
        have hbl := hst.below
        have d0 := (hbl.cell (p := ⟨b, off + k * 3, none⟩) hb).trans c0
        have d1 := (hbl.cell (p := ⟨b, off + k * 3 + 1, none⟩) hb).trans c1
        have d2 := (hbl.cell (p := ⟨b, off + k * 3 + 2, none⟩) hb).trans c2
        have C1 := Lib.hid c1; have C2 := Lib.hid c2
        clear c0 c1 c2
        go_wp2_with fail
        · refine (awake_any A _).mono ?_
          rintro e w2 ⟨rfl, hb2⟩
          go_wp2
          go_ret
          exact ⟨rfl, hbl.trans (hb2.mono hbl.size)⟩
        · as_aux_lemma =>
          have hk : kind % 4 = 0 := by simpa using (by assumption : (kind % 4 == 0) = true)
          refine (hst.num n hw (by omega)).mono ?_
          rintro e w2 ⟨rfl, h2⟩
          have d1 := (h2.below.cell (p := ⟨b, off + k * 3 + 1, none⟩) hb).trans C1.out
          clear d0
          go_wp2_with fail
          refine (h2.rnum n hw).mono ?_
          rintro e w3 ⟨g, gc, rfl, h3, hsrc⟩
          have HSR := Lib.hid hsrc; clear hsrc
          go_wp2_with (at_builtin; refine wpList_append_own_at _ rfl (.tmp 65) (.tmp 71) _ rfl w.heap.size 5 i0 (.int .u8 0) 1 1 Try.underlying25 hi hz0 hz1 hz2 rfl (by decide) _ _ _ rfl h3.own ⟨g, 0, none⟩ 8 gc (cells8 (num8 n)) rfl rfl HSR.out (cells8_one _) (by unfold maxLen; omega) (by omega) h3.below.size ?_)
          intro v' w4 hown hg _ hat
          have h4 := h3.append (num8_length n) hown hg hat
          have htl : t.length ≤ 300 := by omega
          have e8 : (l ++ num8 n).length ≤ (k + 1) * 308 := by rw [List.length_append, num8_length]; omega
          have ee : encs (ps.take (k + 1)) = l ++ num8 n := by rw [HNX.out, enc_num (Or.inl hk)]
          have ht4 := HTN.out htl
          have H4 := Lib.hid h4; have HEE := Lib.hid ee; have HT4 := Lib.hid ht4; have H8 := Lib.hid e8
          clear hown hg hat h4 ee ht4 e8 h2 h3
          go_wp2
          go_roundw
          case rel => exact ⟨k + 1, l ++ num8 n, by omega, by omega, H8.out, HEE.out.symm, by go_num, HT4.out, H4.out⟩
          case measure => simp [intOf]; omega
        · as_aux_lemma =>
          have hk : kind % 4 = 1 := by simpa using (by assumption : (kind % 4 == 1) = true)
          refine (hst.int n hw (by omega)).mono ?_
          rintro e w2 ⟨rfl, h2⟩
          have d1 := (h2.below.cell (p := ⟨b, off + k * 3 + 1, none⟩) hb).trans C1.out
          clear d0
          go_wp2_with fail
          refine (h2.rnum n hw).mono ?_
          rintro e w3 ⟨g, gc, rfl, h3, hsrc⟩
          have HSR := Lib.hid hsrc; clear hsrc
          go_wp2_with (at_builtin; refine wpList_append_own_at _ rfl (.tmp 83) (.tmp 89) _ rfl w.heap.size 5 i0 (.int .u8 0) 1 1 Try.underlying25 hi hz0 hz1 hz2 rfl (by decide) _ _ _ rfl h3.own ⟨g, 0, none⟩ 8 gc (cells8 (num8 n)) rfl rfl HSR.out (cells8_one _) (by unfold maxLen; omega) (by omega) h3.below.size ?_)
          intro v' w4 hown hg _ hat
          have h4 := h3.append (num8_length n) hown hg hat
          have htl : t.length ≤ 300 := by omega
          have e8 : (l ++ num8 n).length ≤ (k + 1) * 308 := by rw [List.length_append, num8_length]; omega
          have ee : encs (ps.take (k + 1)) = l ++ num8 n := by rw [HNX.out, enc_num (Or.inr hk)]
          have ht4 := HTN.out htl
          have H4 := Lib.hid h4; have HEE := Lib.hid ee; have HT4 := Lib.hid ht4; have H8 := Lib.hid e8
          clear hown hg hat h4 ee ht4 e8 h2 h3
          go_wp2
          go_roundw
          case rel => exact ⟨k + 1, l ++ num8 n, by omega, by omega, H8.out, HEE.out.symm, by go_num, HT4.out, H4.out⟩
          case measure => simp [intOf]; omega
        · as_aux_lemma =>
          have hk : ¬ (kind % 4 = 0 ∨ kind % 4 = 1) := by
            have q1 : (kind % 4 == 0) = false := by assumption
            have q2 : (kind % 4 == 1) = false := by assumption
            simp at q1 q2; omega
          refine (hst.text pA t.length pcap t (by omega) rfl (by omega) hcap hnil hlie).mono ?_
          rintro e w2 ⟨rfl, h2⟩
          have d2 := (h2.below.cell (p := ⟨b, off + k * 3 + 2, none⟩) hb).trans C2.out
          clear d0
          go_wp2_with fail
          refine (h2.rtext pA t.length pcap t rfl (by omega) hcap hnil hlie).mono ?_
          rintro e w3 ⟨g, gc, rfl, h3, hsrc⟩
          have HSR := Lib.hid hsrc; clear hsrc
          go_wp2_with (at_builtin; refine wpList_append_own_at _ rfl (.tmp 48) (.tmp 54) _ rfl w.heap.size 5 i0 (.int .u8 0) 1 1 Try.underlying25 hi hz0 hz1 hz2 rfl (by decide) _ _ _ rfl h3.own ⟨g, 0, none⟩ (8 + t.length) gc (cells8 (text8 t)) rfl (by rw [cells8_length, text8_length]; omega) HSR.out (cells8_one _) (by unfold maxLen; omega) (by omega) h3.below.size ?_)
          intro v' w4 hown hg _ hat
          have h4 := h3.append (text8_length t) hown hg hat
          have htl : t.length ≤ 300 := by omega
          have e8 : (l ++ text8 t).length ≤ (k + 1) * 308 := by rw [List.length_append, text8_length]; omega
          have ee : encs (ps.take (k + 1)) = l ++ text8 t := by rw [HNX.out, enc_text hk]
          have ht4 := HTN.out htl
          have H4 := Lib.hid h4; have HEE := Lib.hid ee; have HT4 := Lib.hid ht4; have H8 := Lib.hid e8
          clear hown hg hat h4 ee ht4 e8 h2 h3
          go_wp2
          go_roundw
          case rel => exact ⟨k + 1, l ++ text8 t, by omega, by omega, H8.out, HEE.out.symm, by go_num, HT4.out, H4.out⟩
          case measure => simp [intOf]; omega
      · have hke : k = ps.length ∨ (k < ps.length ∧ k = 20) := by omega
        have hfin : BackFirst A w wr (.pointer (some p)) u6 ps := by
          refine ⟨l, ?_, by omega, fun j hj hj2 => HT.out j hj (by omega), hst⟩
          rw [HLE.out]
          rcases hke with rfl | ⟨_, rfl⟩
          · rw [List.take_of_length_le (Nat.le_refl _), List.take_of_length_le hk20]
          · rfl
        have HFIN := Lib.hid hfin
        clear hfin hst
        rcases hke with rfl | ⟨hkl, rfl⟩
        all_goals
          go_wp2_with fail
          go_meet
          exact HFIN.out
  case rest =>
    obtain ⟨l, hl, hlen6, ht300, hst⟩ := hcut
    obtain ⟨L, hL⟩ : ∃ L, l.length = L := ⟨_, rfl⟩
    have hL8 : 8 ≤ L := by
      have e : ps.take 20 = ps[0] :: (ps.drop 1).take 19 := by
        rcases ps with _ | ⟨p0, r⟩
        · simp at hps0
        · rfl
      rw [← hL, hl, e, encs, List.length_append]
      have := enc_length ps[0]; omega
    rw [hL] at hlen6
    have HL := Lib.hid hL; have HE := Lib.hid hl; have HT := Lib.hid ht300
    clear hl ht300 hL
    go_wp2_with fail
    refine (hst.wst.bytes (by rw [HL.out]; omega)).mono ?_
    rintro e w2 ⟨x, rfl, hx, h2⟩
    have ho2 := (hst.more hx.2).own
    have hx1 := hx.1
    rw [HL.out] at ho2 hx1
    obtain ⟨gb, capb, rfl, _, hgbs, hncb, _, hcb, _⟩ := own_form hx1 (by omega)
    obtain ⟨gv, capv, rfl, _, hgvs, _, _, hcv, _⟩ := own_form ho2 (by omega)
    have hlb : Lie8 w2 (fun _ => False) (some ⟨gb, 0, none⟩) l := Or.inr ⟨_, rfl, hgbs, (fun h => h), fun j hj => by rw [add_plain, Nat.zero_add]; exact hcb j hj⟩
    have hlv : Lie8 w2 (fun _ => False) (some ⟨gv, 0, none⟩) l := Or.inr ⟨_, rfl, hgvs, (fun h => h), fun j hj => by rw [add_plain, Nat.zero_add]; exact hcv j hj⟩
    have hbl2 := h2.below
    have K := rsame_any (some ⟨gb, 0, none⟩) (some ⟨gv, 0, none⟩) L L capb capv l l w2 (fun _ => False) HL.out (fun h => by cases h) hlb HL.out (fun h => by cases h) hlv
    rw [decide_eq_true rfl] at K
    clear hst h2 hx ho2 hx1 hcb hcv hlv
    go_wp2_with fail
    refine K.mono ?_
    clear K
    rintro e w3 ⟨rfl, rfl⟩
    go_wp2_with fail
    go_loopw [9] (fun sq wr => ∃ q : Nat, q ≤ 3 ∧ sq = .int .i64 q ∧ Below w.heap.size w wr ∧ Lie8 wr (fun _ => False) (some ⟨gb, 0, none⟩) l) (fun sq _ => 3 - (intOf sq).toNat)
    case atStart => exact ⟨0, by omega, rfl, hbl2, hlb⟩
    case round =>
      clear hlb hbl2
      obtain ⟨q, hq, rfl, hbl, hlb⟩ := hrel
      by_cases hq3 : q < 3
      · have hown0 : (wr.alloc (.cells #[] 5)).ownsRow wr.heap.size 5 1 (.slice (some ⟨wr.heap.size, 0, none⟩) 0 0) 0 [] := World.ownsRow_made wr #[] 0 (Nat.le_refl _) (Nat.zero_le _) rfl
        have hsrc : ∀ (j : Nat) (u : Value), (cells8 l)[j]? = some u → (wr.alloc (.cells #[] 5)).cell? ((⟨gb, 0, none⟩ : Addr).add j) = some u := by
          intro j u hu
          obtain ⟨hj, rfl⟩ := cells8_some hu
          rcases hlb.below ((Below.refl _ _).alloc (Nat.le_refl _) (.cells #[] 5)) with rfl | ⟨a', ha, _, _, hc⟩
          · simp at hj
          · obtain rfl := Option.some.inj ha
            exact hc j hj
        have HSR := Lib.hid hsrc; have HLB := Lib.hid hlb; have HBL := Lib.hid hbl
        have hq : q = 0 ∨ q = 1 ∨ q = 2 := by omega
        clear hsrc hlb hbl
        have hszr := HBL.out.size
        have hgbr : gb < wr.heap.size := by
          rcases HLB.out with h | ⟨a', ha, hlt, _, _⟩
          · have := HL.out; rw [h] at this; simp at this; omega
          · obtain rfl := Option.some.inj ha; exact hlt
        rcases hq with rfl | rfl | rfl
        · as_aux_lemma =>
          go_wp2_with (at_builtin; refine wpList_append_own _ rfl (.tmp 101) (.tmp 102) _ rfl wr.heap.size 5 i0 (.int .u8 0) 1 1 Try.underlying25 hi hz0 hz1 hz2 rfl (by decide) _ _ _ rfl hown0 ⟨gb, 0, none⟩ L capb (cells8 l) rfl (by rw [cells8_length, HL.out]; omega) HSR.out (cells8_one l) (by unfold maxLen; omega) (by omega) (by simp) ?_)
          intro v1 w4 hown1 hg1 _
          have hb4 : Below w.heap.size w w4 := (HBL.out.alloc hszr _).grown hg1 (by simp; omega) (fun k hk => Nat.le_trans hszr (hown0.lt k hk).1)
          have hlb4 : Lie8 w4 (fun _ => False) (some ⟨gb, 0, none⟩) l := HLB.out.below (((Below.refl _ _).alloc (Nat.le_refl _) _).grown hg1 (by simp) (fun k hk => by simp [Value.ownBlock] at hk; omega))
          obtain ⟨gc, capc, rfl, _, hgcs, hncc, _, hcc, _⟩ := own_form hown1 (by omega)
          have hgiv : BackGiven w w4 gb gc L capc l (encs (ps.take 20)) true [] true := back_given0 HE.out HL.out hncc (by omega) (Or.inr ⟨_, rfl, hgcs, (fun h => h), fun j hj => by rw [add_plain, Nat.zero_add]; exact hcc j hj⟩) hb4 hlb4
          have HG := Lib.hid hgiv
          clear hgiv hcc hown1 hg1 hb4 hlb4 hown0
          go_wp2_with fail
          obtain ⟨cl, hcl, hclc, hcl7, hlc, hinv, hbl4, hlb4, hend⟩ := HG.out
          refine (RSt.read A (Below.refl _ w4) (some ⟨gc, 0, none⟩) _ capc cl hcl (by omega) hclc (fun h => by cases h) hlc).mono ?_
          rintro e w6 ⟨r, rfl, hr, _⟩
          have HLB4 := Lib.hid hlb4; have HBL4 := Lib.hid hbl4; have HEND := Lib.hid hend
          clear hlb4 hbl4 hend hlc hcl hclc hcl7 HG
          go_wp2_with fail
          go_loopw [12, 13] (fun ss sj wr2 => ∃ (j : Nat) (same : Bool) (s : Left8), j ≤ ps.length ∧ j ≤ 20 ∧ sj = .int .i64 j ∧ ss = .bool same ∧ RSt A w4 wr2 (.pointer (some r)) s ∧ BackInv true [] (encs ((ps.take 20).drop j)) same s) (fun _ sj _ => 20 - (intOf sj).toNat)
          case atStart => exact ⟨0, true, some cl, by omega, by omega, rfl, rfl, hr, by rw [List.drop_zero]; exact hinv⟩
          case round =>
            clear hr hinv
            rename_i wr2 _
            obtain ⟨j, same, s, hj, hj20, rfl, rfl, hst, hinv⟩ := hrel
            by_cases hgo : j < ps.length ∧ j < 20
            · obtain ⟨hjn, hj2⟩ := hgo
              obtain ⟨c0, c1, c2, hok⟩ := HP.out j hjn
              obtain ⟨b0, b1, hw, hcap, hmax, hnil, hlie⟩ := hok
              have htl := HT.out j hjn hj2
              have hdec : encs ((ps.take 20).drop j) = enc ps[j] ++ encs ((ps.take 20).drop (j + 1)) := by
                rw [List.drop_eq_getElem_cons (by rw [List.length_take]; omega), encs, List.getElem_take]
              rw [hdec] at hinv
              clear hdec
              generalize ps[j] = pt at c0 c1 c2 b0 b1 hw hcap hmax hnil hlie htl hinv
              have hnum := fun hk => back_num (p := pt) hk hw (full := true) (tail := []) (E := encs ((ps.take 20).drop (j + 1))) (s := s)
              have htext := fun hk => back_text (p := pt) hk (by omega) (full := true) (tail := []) (E := encs ((ps.take 20).drop (j + 1))) (s := s)
              have hstay := fun h => back_stay (p := pt) (full := true) (tail := []) (E := encs ((ps.take 20).drop (j + 1))) (s := s) h
              obtain ⟨kind, n, pA, pcap, t⟩ := pt
              simp only at c0 c1 c2 b0 b1 hw hcap hmax hnil hlie htl hnum htext
              have hm3 := mask3 kind
              have hbl := HBL4.out.trans (hst.below.mono HBL4.out.size)
              have d0 := (hbl.cell (p := ⟨b, off + j * 3, none⟩) hb).trans c0
              have d1 := (hbl.cell (p := ⟨b, off + j * 3 + 1, none⟩) hb).trans c1
              have d2 := (hbl.cell (p := ⟨b, off + j * 3 + 2, none⟩) hb).trans c2
              have C1 := Lib.hid c1; have C2 := Lib.hid c2; have HNUM := Lib.hid hnum; have HTXT := Lib.hid htext; have HSTAY := Lib.hid hstay; have HINV := Lib.hid hinv; have HBL := Lib.hid hbl; have HLIE := Lib.hid hlie
              clear c0 c1 c2 hnum htext hstay hinv hbl hlie
              have hst0 := hst
              have hst := hst0.more ((Below.refl _ _).drew)
              cases same
              · as_aux_lemma =>
                go_wp2_with fail
                all_goals
                  go_quiet (fail)
                  all_goals
                    go_wp2_with fail
                    go_roundw
                    case rel => exact ⟨j + 1, false, s, by omega, by omega, by go_num, rfl, RSt.more hst ⟨rfl, rfl, rfl, Nat.le_refl _, fun _ _ => rfl⟩, HSTAY.out HINV.out⟩
                    case measure => simp [intOf]; omega
              · go_wp2_with fail
                · as_aux_lemma =>
                  have hk : kind % 4 = 0 := by simpa using (by assumption : (kind % 4 == 0) = true)
                  obtain ⟨val, s', hv, hvw, hi'⟩ := HNUM.out (Or.inl hk) HINV.out
                  have HV := Lib.hid hv; have HI := Lib.hid hi'
                  clear hv hi' hvw hk
                  go_region_held3 (fun w' => w'.cell? ⟨b, off + j * 3 + 1, none⟩ = some (.int .u64 n)) (first | assumption | simp [*]) (first | (go_at_call 20; refine (RSt.rnum_is (A := A) (w0 := w4) ?_ HV.out).mono ?_; (first | exact hst | exact hst0 | exact hst0.more ⟨rfl, rfl, rfl, Nat.le_refl _, fun _ _ => rfl⟩); rintro e w7 ⟨rfl, h7⟩; have e1 := ((HBL4.out.trans (h7.below.mono HBL4.out.size)).cell (p := ⟨b, off + j * 3 + 1, none⟩) hb).trans C1.out))
                  all_goals
                    go_wp2_with fail
                    go_roundw
                    case rel => exact ⟨j + 1, _, s', by omega, by omega, by go_num, rfl, (by first | assumption | exact RSt.more (by assumption) ((Below.refl _ _).drew)), HI.out⟩
                    case measure => simp [intOf]; omega
                · as_aux_lemma =>
                  have hk : kind % 4 = 1 := by simpa using (by assumption : (kind % 4 == 1) = true)
                  obtain ⟨val, s', hv, hvw, hi'⟩ := HNUM.out (Or.inr hk) HINV.out
                  have hI : BackInv true [] (encs ((ps.take 20).drop (j + 1))) (wrap64 val == IntKind.i64.wrap n) s' := by
                    have e : (wrap64 val == IntKind.i64.wrap n) = decide (val = n) := by
                      have h1 : IntKind.i64.wrap n = wrap64 n := by rw [IntKind.wrap_i64]; unfold wrap64; rfl
                      have h2 := asI_inj hvw hw
                      rw [asI_wrap, asI_wrap, decide_eq_decide] at h2
                      rw [Bool.eq_iff_iff, beq_iff_eq, decide_eq_true_iff, h1]
                      exact h2
                    rw [e]; exact hi'
                  have HV := Lib.hid hv; have HI := Lib.hid hI
                  clear hv hi' hvw hk hI
                  go_region_held3 (fun w' => w'.cell? ⟨b, off + j * 3 + 1, none⟩ = some (.int .u64 n)) (first | assumption | simp [*]) (first | (go_at_call 21; refine (RSt.rint_is (A := A) (w0 := w4) ?_ HV.out (asI_wrap val)).mono ?_; (first | exact hst | exact hst0 | exact hst0.more ⟨rfl, rfl, rfl, Nat.le_refl _, fun _ _ => rfl⟩); rintro e w7 ⟨rfl, h7⟩; have e1 := ((HBL4.out.trans (h7.below.mono HBL4.out.size)).cell (p := ⟨b, off + j * 3 + 1, none⟩) hb).trans C1.out))
                  all_goals
                    go_wp2_with fail
                    go_roundw
                    case rel => exact ⟨j + 1, _, s', by omega, by omega, by go_num, rfl, (by first | assumption | exact RSt.more (by assumption) ((Below.refl _ _).drew)), HI.out⟩
                    case measure => simp [intOf]; omega
                · as_aux_lemma =>
                  have hk : ¬ (kind % 4 = 0 ∨ kind % 4 = 1) := by
                    have q1 : (kind % 4 == 0) = false := by assumption
                    have q2 : (kind % 4 == 1) = false := by assumption
                    simp at q1 q2; omega
                  obtain ⟨t', s', hv, hi'⟩ := HTXT.out hk HINV.out
                  have hpA : pA = none → t.length = 0 := fun h => by have := hnil h; omega
                  have HV := Lib.hid hv; have HI := Lib.hid hi'; have HPA := Lib.hid hpA
                  clear hv hi' hk hpA
                  go_region_held3 (fun w' => w'.cell? ⟨b, off + j * 3 + 2, none⟩ = some (.slice pA t.length pcap)) (first | assumption | simp [*]) (first
                    | (go_at_call 17; refine (RSt.rtext_is (A := A) (w0 := w4) ?_ HV.out).mono ?_; (first | exact hst | exact hst0 | exact hst0.more ⟨rfl, rfl, rfl, Nat.le_refl _, fun _ _ => rfl⟩); rintro e w7 ⟨ra, rc, rfl, hra, hrl, h7⟩; have e1 := ((HBL4.out.trans (h7.below.mono HBL4.out.size)).cell (p := ⟨b, off + j * 3 + 2, none⟩) hb).trans C2.out; have SM := rsame_any ra pA t'.length t.length rc pcap t' t w7 (fun _ => False) rfl hra hrl rfl HPA.out (HLIE.out.below (HBL4.out.trans (h7.below.mono HBL4.out.size))))
                    | (go_at_call 14; refine SM.mono ?_; rintro e w8 ⟨rfl, rfl⟩))
                  all_goals
                    go_wp2_with fail
                    go_roundw
                    case rel => exact ⟨j + 1, _, s', by omega, by omega, by go_num, rfl, (by first | assumption | exact RSt.more (by assumption) ((Below.refl _ _).drew)), HI.out⟩
                    case measure => simp [intOf]; omega
            · have hz : (ps.take 20).drop j = [] := List.drop_eq_nil_of_le (by rw [List.length_take]; omega)
              rw [hz] at hinv
              obtain ⟨hd, hs⟩ := HEND.out _ _ hinv
              obtain rfl : same = true := by simpa using hs
              have hje : j = ps.length ∨ (j < ps.length ∧ j = 20) := by omega
              have K := hst.done_is hd
              have HK := Lib.hid K
              clear K hd hinv hz
              rcases hje with rfl | ⟨hjl, rfl⟩
              all_goals
                go_wp2_with (go_at_call 18; refine HK.out.mono ?_; rintro e w7 ⟨rfl, h7⟩)
                go_roundw
                case rel => exact ⟨1, by omega, rfl, HBL4.out.trans (h7.below.mono HBL4.out.size), HLB4.out.below h7.below⟩
                case measure => decide
        · as_aux_lemma =>
          go_wp2_with (at_builtin; refine wpList_append_own _ rfl (.tmp 101) (.tmp 102) _ rfl wr.heap.size 5 i0 (.int .u8 0) 1 1 Try.underlying25 hi hz0 hz1 hz2 rfl (by decide) _ _ _ rfl hown0 ⟨gb, 0, none⟩ L capb (cells8 l) rfl (by rw [cells8_length, HL.out]; omega) HSR.out (cells8_one l) (by unfold maxLen; omega) (by omega) (by simp) ?_)
          intro v1 w4 hown1 hg1 _
          have hb4 : Below w.heap.size w w4 := (HBL.out.alloc hszr _).grown hg1 (by simp; omega) (fun k hk => Nat.le_trans hszr (hown0.lt k hk).1)
          have hlb4 : Lie8 w4 (fun _ => False) (some ⟨gb, 0, none⟩) l := HLB.out.below (((Below.refl _ _).alloc (Nat.le_refl _) _).grown hg1 (by simp) (fun k hk => by simp [Value.ownBlock] at hk; omega))
          have hsz4 := hb4.size
          have hsz44 : wr.heap.size ≤ w4.heap.size := by have := hg1.size; simp at this; omega
          have HB4 := Lib.hid hb4; have HL4 := Lib.hid hlb4
          clear hg1 hb4 hlb4 hown0
          go_wp2_with (at_builtin; refine wpList_append_own _ rfl (.tmp 106) (.tmp 107) _ rfl wr.heap.size 5 i0 (.int .u8 0) 1 1 Try.underlying25 hi hz0 hz1 hz2 rfl (by decide) _ _ _ rfl (hown1.alloc _) ⟨w4.heap.size, 0, none⟩ 1 1 (cells8 [0]) rfl rfl (one_cell w4 _ _) (cells8_one _) (by unfold maxLen; omega) (by omega) (by simp; omega) ?_)
          intro v2 w5 hown2 hg2 _
          have hb5 : Below w.heap.size w w5 := (HB4.out.alloc hsz4 _).grown hg2 (by simp; omega) (fun k hk => Nat.le_trans hszr (hown1.lt k hk).1)
          rw [← cells8_append] at hown2
          obtain ⟨gc, capc, rfl, _, hgcs, hncc, _, hcc, _⟩ := own_form hown2 (by omega)
          have hc5 : Chg (fun k => v1.ownBlock = some k) (w4.alloc (.cells #[.int .u8 0] 5)) w5 := (Chg.refl _ _).grown hg2 (fun k hk _ => hk)
          have hlb5 := lie8_chg_at (HL4.out.below ((Below.refl _ _).alloc (Nat.le_refl _) (.cells #[.int .u8 0] 5))) hc5 (fun h => by have := (hown1.lt gb h).1; omega)
          have hl1 : (l ++ [0]).length = L + 1 := by rw [List.length_append, HL.out]; rfl
          have hgiv : BackGiven w w5 gb gc (L + 1) capc l (encs (ps.take 20)) true [0] false := back_given1 HE.out hl1 hncc (by omega) (Or.inr ⟨_, rfl, hgcs, (fun h => h), fun j hj => by rw [add_plain, Nat.zero_add]; exact hcc j hj⟩) hb5 hlb5
          have HG := Lib.hid hgiv
          clear hgiv hcc hown1 hown2 hg2 hb5 hlb5 hc5
          go_wp2_with fail
          obtain ⟨cl, hcl, hclc, hcl7, hlc, hinv, hbl4, hlb4, hend⟩ := HG.out
          refine (RSt.read A (Below.refl _ w5) (some ⟨gc, 0, none⟩) _ capc cl hcl (by omega) hclc (fun h => by cases h) hlc).mono ?_
          rintro e w6 ⟨r, rfl, hr, _⟩
          have HLB4 := Lib.hid hlb4; have HBL4 := Lib.hid hbl4; have HEND := Lib.hid hend
          clear hlb4 hbl4 hend hlc hcl hclc hcl7 HG
          go_wp2_with fail
          go_loopw [12, 13] (fun ss sj wr2 => ∃ (j : Nat) (same : Bool) (s : Left8), j ≤ ps.length ∧ j ≤ 20 ∧ sj = .int .i64 j ∧ ss = .bool same ∧ RSt A w5 wr2 (.pointer (some r)) s ∧ BackInv true [0] (encs ((ps.take 20).drop j)) same s) (fun _ sj _ => 20 - (intOf sj).toNat)
          case atStart => exact ⟨0, true, some cl, by omega, by omega, rfl, rfl, hr, by rw [List.drop_zero]; exact hinv⟩
          case round =>
            clear hr hinv
            rename_i wr2 _
            obtain ⟨j, same, s, hj, hj20, rfl, rfl, hst, hinv⟩ := hrel
            by_cases hgo : j < ps.length ∧ j < 20
            · obtain ⟨hjn, hj2⟩ := hgo
              obtain ⟨c0, c1, c2, hok⟩ := HP.out j hjn
              obtain ⟨b0, b1, hw, hcap, hmax, hnil, hlie⟩ := hok
              have htl := HT.out j hjn hj2
              have hdec : encs ((ps.take 20).drop j) = enc ps[j] ++ encs ((ps.take 20).drop (j + 1)) := by
                rw [List.drop_eq_getElem_cons (by rw [List.length_take]; omega), encs, List.getElem_take]
              rw [hdec] at hinv
              clear hdec
              generalize ps[j] = pt at c0 c1 c2 b0 b1 hw hcap hmax hnil hlie htl hinv
              have hnum := fun hk => back_num (p := pt) hk hw (full := true) (tail := [0]) (E := encs ((ps.take 20).drop (j + 1))) (s := s)
              have htext := fun hk => back_text (p := pt) hk (by omega) (full := true) (tail := [0]) (E := encs ((ps.take 20).drop (j + 1))) (s := s)
              have hstay := fun h => back_stay (p := pt) (full := true) (tail := [0]) (E := encs ((ps.take 20).drop (j + 1))) (s := s) h
              obtain ⟨kind, n, pA, pcap, t⟩ := pt
              simp only at c0 c1 c2 b0 b1 hw hcap hmax hnil hlie htl hnum htext
              have hm3 := mask3 kind
              have hbl := HBL4.out.trans (hst.below.mono HBL4.out.size)
              have d0 := (hbl.cell (p := ⟨b, off + j * 3, none⟩) hb).trans c0
              have d1 := (hbl.cell (p := ⟨b, off + j * 3 + 1, none⟩) hb).trans c1
              have d2 := (hbl.cell (p := ⟨b, off + j * 3 + 2, none⟩) hb).trans c2
              have C1 := Lib.hid c1; have C2 := Lib.hid c2; have HNUM := Lib.hid hnum; have HTXT := Lib.hid htext; have HSTAY := Lib.hid hstay; have HINV := Lib.hid hinv; have HBL := Lib.hid hbl; have HLIE := Lib.hid hlie
              clear c0 c1 c2 hnum htext hstay hinv hbl hlie
              have hst0 := hst
              have hst := hst0.more ((Below.refl _ _).drew)
              cases same
              · as_aux_lemma =>
                go_wp2_with fail
                all_goals
                  go_quiet (fail)
                  all_goals
                    go_wp2_with fail
                    go_roundw
                    case rel => exact ⟨j + 1, false, s, by omega, by omega, by go_num, rfl, RSt.more hst ⟨rfl, rfl, rfl, Nat.le_refl _, fun _ _ => rfl⟩, HSTAY.out HINV.out⟩
                    case measure => simp [intOf]; omega
              · go_wp2_with fail
                · as_aux_lemma =>
                  have hk : kind % 4 = 0 := by simpa using (by assumption : (kind % 4 == 0) = true)
                  obtain ⟨val, s', hv, hvw, hi'⟩ := HNUM.out (Or.inl hk) HINV.out
                  have HV := Lib.hid hv; have HI := Lib.hid hi'
                  clear hv hi' hvw hk
                  go_region_held3 (fun w' => w'.cell? ⟨b, off + j * 3 + 1, none⟩ = some (.int .u64 n)) (first | assumption | simp [*]) (first | (go_at_call 20; refine (RSt.rnum_is (A := A) (w0 := w5) ?_ HV.out).mono ?_; (first | exact hst | exact hst0 | exact hst0.more ⟨rfl, rfl, rfl, Nat.le_refl _, fun _ _ => rfl⟩); rintro e w7 ⟨rfl, h7⟩; have e1 := ((HBL4.out.trans (h7.below.mono HBL4.out.size)).cell (p := ⟨b, off + j * 3 + 1, none⟩) hb).trans C1.out))
                  all_goals
                    go_wp2_with fail
                    go_roundw
                    case rel => exact ⟨j + 1, _, s', by omega, by omega, by go_num, rfl, (by first | assumption | exact RSt.more (by assumption) ((Below.refl _ _).drew)), HI.out⟩
                    case measure => simp [intOf]; omega
                · as_aux_lemma =>
                  have hk : kind % 4 = 1 := by simpa using (by assumption : (kind % 4 == 1) = true)
                  obtain ⟨val, s', hv, hvw, hi'⟩ := HNUM.out (Or.inr hk) HINV.out
                  have hI : BackInv true [0] (encs ((ps.take 20).drop (j + 1))) (wrap64 val == IntKind.i64.wrap n) s' := by
                    have e : (wrap64 val == IntKind.i64.wrap n) = decide (val = n) := by
                      have h1 : IntKind.i64.wrap n = wrap64 n := by rw [IntKind.wrap_i64]; unfold wrap64; rfl
                      have h2 := asI_inj hvw hw
                      rw [asI_wrap, asI_wrap, decide_eq_decide] at h2
                      rw [Bool.eq_iff_iff, beq_iff_eq, decide_eq_true_iff, h1]
                      exact h2
                    rw [e]; exact hi'
                  have HV := Lib.hid hv; have HI := Lib.hid hI
                  clear hv hi' hvw hk hI
                  go_region_held3 (fun w' => w'.cell? ⟨b, off + j * 3 + 1, none⟩ = some (.int .u64 n)) (first | assumption | simp [*]) (first | (go_at_call 21; refine (RSt.rint_is (A := A) (w0 := w5) ?_ HV.out (asI_wrap val)).mono ?_; (first | exact hst | exact hst0 | exact hst0.more ⟨rfl, rfl, rfl, Nat.le_refl _, fun _ _ => rfl⟩); rintro e w7 ⟨rfl, h7⟩; have e1 := ((HBL4.out.trans (h7.below.mono HBL4.out.size)).cell (p := ⟨b, off + j * 3 + 1, none⟩) hb).trans C1.out))
                  all_goals
                    go_wp2_with fail
                    go_roundw
                    case rel => exact ⟨j + 1, _, s', by omega, by omega, by go_num, rfl, (by first | assumption | exact RSt.more (by assumption) ((Below.refl _ _).drew)), HI.out⟩
                    case measure => simp [intOf]; omega
                · as_aux_lemma =>
                  have hk : ¬ (kind % 4 = 0 ∨ kind % 4 = 1) := by
                    have q1 : (kind % 4 == 0) = false := by assumption
                    have q2 : (kind % 4 == 1) = false := by assumption
                    simp at q1 q2; omega
                  obtain ⟨t', s', hv, hi'⟩ := HTXT.out hk HINV.out
                  have hpA : pA = none → t.length = 0 := fun h => by have := hnil h; omega
                  have HV := Lib.hid hv; have HI := Lib.hid hi'; have HPA := Lib.hid hpA
                  clear hv hi' hk hpA
                  go_region_held3 (fun w' => w'.cell? ⟨b, off + j * 3 + 2, none⟩ = some (.slice pA t.length pcap)) (first | assumption | simp [*]) (first
                    | (go_at_call 17; refine (RSt.rtext_is (A := A) (w0 := w5) ?_ HV.out).mono ?_; (first | exact hst | exact hst0 | exact hst0.more ⟨rfl, rfl, rfl, Nat.le_refl _, fun _ _ => rfl⟩); rintro e w7 ⟨ra, rc, rfl, hra, hrl, h7⟩; have e1 := ((HBL4.out.trans (h7.below.mono HBL4.out.size)).cell (p := ⟨b, off + j * 3 + 2, none⟩) hb).trans C2.out; have SM := rsame_any ra pA t'.length t.length rc pcap t' t w7 (fun _ => False) rfl hra hrl rfl HPA.out (HLIE.out.below (HBL4.out.trans (h7.below.mono HBL4.out.size))))
                    | (go_at_call 14; refine SM.mono ?_; rintro e w8 ⟨rfl, rfl⟩))
                  all_goals
                    go_wp2_with fail
                    go_roundw
                    case rel => exact ⟨j + 1, _, s', by omega, by omega, by go_num, rfl, (by first | assumption | exact RSt.more (by assumption) ((Below.refl _ _).drew)), HI.out⟩
                    case measure => simp [intOf]; omega
            · have hz : (ps.take 20).drop j = [] := List.drop_eq_nil_of_le (by rw [List.length_take]; omega)
              rw [hz] at hinv
              obtain ⟨hd, hs⟩ := HEND.out _ _ hinv
              obtain rfl : same = true := by simpa using hs
              have hje : j = ps.length ∨ (j < ps.length ∧ j = 20) := by omega
              have K := hst.done_is hd
              have HK := Lib.hid K
              clear K hd hinv hz
              rcases hje with rfl | ⟨hjl, rfl⟩
              all_goals
                go_wp2_with (go_at_call 18; refine HK.out.mono ?_; rintro e w7 ⟨rfl, h7⟩)
                go_roundw
                case rel => exact ⟨2, by omega, rfl, HBL4.out.trans (h7.below.mono HBL4.out.size), HLB4.out.below h7.below⟩
                case measure => decide
        · as_aux_lemma =>
          go_wp2_with (at_builtin; refine wpList_append_own _ rfl (.tmp 101) (.tmp 102) _ rfl wr.heap.size 5 i0 (.int .u8 0) 1 1 Try.underlying25 hi hz0 hz1 hz2 rfl (by decide) _ _ _ rfl hown0 ⟨gb, 0, none⟩ L capb (cells8 l) rfl (by rw [cells8_length, HL.out]; omega) HSR.out (cells8_one l) (by unfold maxLen; omega) (by omega) (by simp) ?_)
          intro v1 w4 hown1 hg1 _
          have hb4 : Below w.heap.size w w4 := (HBL.out.alloc hszr _).grown hg1 (by simp; omega) (fun k hk => Nat.le_trans hszr (hown0.lt k hk).1)
          have hlb4 : Lie8 w4 (fun _ => False) (some ⟨gb, 0, none⟩) l := HLB.out.below (((Below.refl _ _).alloc (Nat.le_refl _) _).grown hg1 (by simp) (fun k hk => by simp [Value.ownBlock] at hk; omega))
          obtain ⟨gc, capc, rfl, _, hgcs, hncc, _, hcc, _⟩ := own_form hown1 (by omega)
          have hm0 := mask65535 at_
          have hm1 : 0 ≤ at_ % 65536 := by omega
          have hm2 : at_ % 65536 < 65536 := by omega
          obtain ⟨m, hm⟩ : ∃ m : Nat, at_ % 65536 % L = m := ⟨(at_ % 65536 % L).toNat, by have := Int.emod_nonneg (at_ % 65536) (show (L : Int) ≠ 0 by omega); omega⟩
          have hmL : m < L := by have := Int.emod_lt_of_pos (at_ % 65536) (show 0 < (L : Int) by omega); omega
          have hgiv : BackGiven w w4 gb gc m capc l (encs (ps.take 20)) false [] false := back_given2 HE.out (by rw [HL.out]; exact hmL) (by omega) (by omega) (Or.inr ⟨_, rfl, hgcs, (fun h => h), fun j hj => by rw [add_plain, Nat.zero_add]; exact hcc j hj⟩) hb4 hlb4
          have HG := Lib.hid hgiv
          clear hgiv hcc hown1 hg1 hb4 hlb4 hown0
          go_wp2_with fail
          obtain ⟨cl, hcl, hclc, hcl7, hlc, hinv, hbl4, hlb4, hend⟩ := HG.out
          refine (RSt.read A (Below.refl _ w4) (some ⟨gc, 0, none⟩) _ capc cl hcl (by omega) hclc (fun h => by cases h) hlc).mono ?_
          rintro e w6 ⟨r, rfl, hr, _⟩
          have HLB4 := Lib.hid hlb4; have HBL4 := Lib.hid hbl4; have HEND := Lib.hid hend
          clear hlb4 hbl4 hend hlc hcl hclc hcl7 HG
          go_wp2_with fail
          go_loopw [12, 13] (fun ss sj wr2 => ∃ (j : Nat) (same : Bool) (s : Left8), j ≤ ps.length ∧ j ≤ 20 ∧ sj = .int .i64 j ∧ ss = .bool same ∧ RSt A w4 wr2 (.pointer (some r)) s ∧ BackInv false [] (encs ((ps.take 20).drop j)) same s) (fun _ sj _ => 20 - (intOf sj).toNat)
          case atStart => exact ⟨0, true, some cl, by omega, by omega, rfl, rfl, hr, by rw [List.drop_zero]; exact hinv⟩
          case round =>
            clear hr hinv
            rename_i wr2 _
            obtain ⟨j, same, s, hj, hj20, rfl, rfl, hst, hinv⟩ := hrel
            by_cases hgo : j < ps.length ∧ j < 20
            · obtain ⟨hjn, hj2⟩ := hgo
              obtain ⟨c0, c1, c2, hok⟩ := HP.out j hjn
              obtain ⟨b0, b1, hw, hcap, hmax, hnil, hlie⟩ := hok
              have htl := HT.out j hjn hj2
              have hdec : encs ((ps.take 20).drop j) = enc ps[j] ++ encs ((ps.take 20).drop (j + 1)) := by
                rw [List.drop_eq_getElem_cons (by rw [List.length_take]; omega), encs, List.getElem_take]
              rw [hdec] at hinv
              clear hdec
              generalize ps[j] = pt at c0 c1 c2 b0 b1 hw hcap hmax hnil hlie htl hinv
              have hnum := fun hk => back_num (p := pt) hk hw (full := false) (tail := []) (E := encs ((ps.take 20).drop (j + 1))) (s := s)
              have htext := fun hk => back_text (p := pt) hk (by omega) (full := false) (tail := []) (E := encs ((ps.take 20).drop (j + 1))) (s := s)
              have hstay := fun h => back_stay (p := pt) (full := false) (tail := []) (E := encs ((ps.take 20).drop (j + 1))) (s := s) h
              obtain ⟨kind, n, pA, pcap, t⟩ := pt
              simp only at c0 c1 c2 b0 b1 hw hcap hmax hnil hlie htl hnum htext
              have hm3 := mask3 kind
              have hbl := HBL4.out.trans (hst.below.mono HBL4.out.size)
              have d0 := (hbl.cell (p := ⟨b, off + j * 3, none⟩) hb).trans c0
              have d1 := (hbl.cell (p := ⟨b, off + j * 3 + 1, none⟩) hb).trans c1
              have d2 := (hbl.cell (p := ⟨b, off + j * 3 + 2, none⟩) hb).trans c2
              have C1 := Lib.hid c1; have C2 := Lib.hid c2; have HNUM := Lib.hid hnum; have HTXT := Lib.hid htext; have HSTAY := Lib.hid hstay; have HINV := Lib.hid hinv; have HBL := Lib.hid hbl; have HLIE := Lib.hid hlie
              clear c0 c1 c2 hnum htext hstay hinv hbl hlie
              have hst0 := hst
              have hst := hst0.more ((Below.refl _ _).drew)
              cases same
              · as_aux_lemma =>
                go_wp2_with fail
                all_goals
                  go_quiet (fail)
                  all_goals
                    go_wp2_with fail
                    go_roundw
                    case rel => exact ⟨j + 1, false, s, by omega, by omega, by go_num, rfl, RSt.more hst ⟨rfl, rfl, rfl, Nat.le_refl _, fun _ _ => rfl⟩, HSTAY.out HINV.out⟩
                    case measure => simp [intOf]; omega
              · go_wp2_with fail
                · as_aux_lemma =>
                  have hk : kind % 4 = 0 := by simpa using (by assumption : (kind % 4 == 0) = true)
                  obtain ⟨val, s', hv, hvw, hi'⟩ := HNUM.out (Or.inl hk) HINV.out
                  have HV := Lib.hid hv; have HI := Lib.hid hi'
                  clear hv hi' hvw hk
                  go_region_held3 (fun w' => w'.cell? ⟨b, off + j * 3 + 1, none⟩ = some (.int .u64 n)) (first | assumption | simp [*]) (first | (go_at_call 20; refine (RSt.rnum_is (A := A) (w0 := w4) ?_ HV.out).mono ?_; (first | exact hst | exact hst0 | exact hst0.more ⟨rfl, rfl, rfl, Nat.le_refl _, fun _ _ => rfl⟩); rintro e w7 ⟨rfl, h7⟩; have e1 := ((HBL4.out.trans (h7.below.mono HBL4.out.size)).cell (p := ⟨b, off + j * 3 + 1, none⟩) hb).trans C1.out))
                  all_goals
                    go_wp2_with fail
                    go_roundw
                    case rel => exact ⟨j + 1, _, s', by omega, by omega, by go_num, rfl, (by first | assumption | exact RSt.more (by assumption) ((Below.refl _ _).drew)), HI.out⟩
                    case measure => simp [intOf]; omega
                · as_aux_lemma =>
                  have hk : kind % 4 = 1 := by simpa using (by assumption : (kind % 4 == 1) = true)
                  obtain ⟨val, s', hv, hvw, hi'⟩ := HNUM.out (Or.inr hk) HINV.out
                  have hI : BackInv false [] (encs ((ps.take 20).drop (j + 1))) (wrap64 val == IntKind.i64.wrap n) s' := by
                    have e : (wrap64 val == IntKind.i64.wrap n) = decide (val = n) := by
                      have h1 : IntKind.i64.wrap n = wrap64 n := by rw [IntKind.wrap_i64]; unfold wrap64; rfl
                      have h2 := asI_inj hvw hw
                      rw [asI_wrap, asI_wrap, decide_eq_decide] at h2
                      rw [Bool.eq_iff_iff, beq_iff_eq, decide_eq_true_iff, h1]
                      exact h2
                    rw [e]; exact hi'
                  have HV := Lib.hid hv; have HI := Lib.hid hI
                  clear hv hi' hvw hk hI
                  go_region_held3 (fun w' => w'.cell? ⟨b, off + j * 3 + 1, none⟩ = some (.int .u64 n)) (first | assumption | simp [*]) (first | (go_at_call 21; refine (RSt.rint_is (A := A) (w0 := w4) ?_ HV.out (asI_wrap val)).mono ?_; (first | exact hst | exact hst0 | exact hst0.more ⟨rfl, rfl, rfl, Nat.le_refl _, fun _ _ => rfl⟩); rintro e w7 ⟨rfl, h7⟩; have e1 := ((HBL4.out.trans (h7.below.mono HBL4.out.size)).cell (p := ⟨b, off + j * 3 + 1, none⟩) hb).trans C1.out))
                  all_goals
                    go_wp2_with fail
                    go_roundw
                    case rel => exact ⟨j + 1, _, s', by omega, by omega, by go_num, rfl, (by first | assumption | exact RSt.more (by assumption) ((Below.refl _ _).drew)), HI.out⟩
                    case measure => simp [intOf]; omega
                · as_aux_lemma =>
                  have hk : ¬ (kind % 4 = 0 ∨ kind % 4 = 1) := by
                    have q1 : (kind % 4 == 0) = false := by assumption
                    have q2 : (kind % 4 == 1) = false := by assumption
                    simp at q1 q2; omega
                  obtain ⟨t', s', hv, hi'⟩ := HTXT.out hk HINV.out
                  have hpA : pA = none → t.length = 0 := fun h => by have := hnil h; omega
                  have HV := Lib.hid hv; have HI := Lib.hid hi'; have HPA := Lib.hid hpA
                  clear hv hi' hk hpA
                  go_region_held3 (fun w' => w'.cell? ⟨b, off + j * 3 + 2, none⟩ = some (.slice pA t.length pcap)) (first | assumption | simp [*]) (first
                    | (go_at_call 17; refine (RSt.rtext_is (A := A) (w0 := w4) ?_ HV.out).mono ?_; (first | exact hst | exact hst0 | exact hst0.more ⟨rfl, rfl, rfl, Nat.le_refl _, fun _ _ => rfl⟩); rintro e w7 ⟨ra, rc, rfl, hra, hrl, h7⟩; have e1 := ((HBL4.out.trans (h7.below.mono HBL4.out.size)).cell (p := ⟨b, off + j * 3 + 2, none⟩) hb).trans C2.out; have SM := rsame_any ra pA t'.length t.length rc pcap t' t w7 (fun _ => False) rfl hra hrl rfl HPA.out (HLIE.out.below (HBL4.out.trans (h7.below.mono HBL4.out.size))))
                    | (go_at_call 14; refine SM.mono ?_; rintro e w8 ⟨rfl, rfl⟩))
                  all_goals
                    go_wp2_with fail
                    go_roundw
                    case rel => exact ⟨j + 1, _, s', by omega, by omega, by go_num, rfl, (by first | assumption | exact RSt.more (by assumption) ((Below.refl _ _).drew)), HI.out⟩
                    case measure => simp [intOf]; omega
            · have hz : (ps.take 20).drop j = [] := List.drop_eq_nil_of_le (by rw [List.length_take]; omega)
              rw [hz] at hinv
              obtain ⟨hd, hs⟩ := HEND.out _ _ hinv
              clear hs
              have hje : j = ps.length ∨ (j < ps.length ∧ j = 20) := by omega
              have K := hst.done_is hd
              have HK := Lib.hid K
              clear K hd hinv hz
              rcases hje with rfl | ⟨hjl, rfl⟩
              all_goals
                go_wp2_with (go_at_call 18; refine HK.out.mono ?_; rintro e w7 ⟨rfl, h7⟩)
                go_roundw
                case rel => exact ⟨3, by omega, rfl, HBL4.out.trans (h7.below.mono HBL4.out.size), HLB4.out.below h7.below⟩
                case measure => decide
      · have hq4 : q = 3 := by omega
        subst hq4
        go_wp2_with (go_at_call 8; refine (awake_any A _).mono ?_; rintro e w4 ⟨rfl, hb4⟩)
        go_ret
        exact ⟨rfl, hbl.trans (hb4.mono hbl.size)⟩
end Go.Proofs.Ytcnnfmooigfeiaa
