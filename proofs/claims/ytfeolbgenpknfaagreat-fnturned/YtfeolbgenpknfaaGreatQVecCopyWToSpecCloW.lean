/- What is proved here: the specification's copy of a vector lies in new memory; nothing that was there turns.
   What is proved here: the specification closes places step by step, in new memory; nothing that was there turns. -/
import Derived.Test.YtfeolbgenpknfaaGreatQSpecKVecWToWordsForW
import Derived.Deep.AppendLies
import Derived.Deep.RegionLaw
import Derived.Test.YtfeolbgenpknfaaGreatQSpecMaskLW
import Derived.Test.YtfeolbgenpknfaaGreatQGetBWToClassRightW
namespace Go.Proofs.YtfeolbgenpknfaaGreat
open Go.RowKit

theorem news_row {W : World} {B bb off n : Nat} {f : Nat → Int} (h : Row W B (some ⟨bb, off, none⟩) n f) (hn : 0 < n) : ∀ (j : Nat) (u : Value), ((List.range n).map fun i => Value.int .i64 (f i))[j]? = some u → W.cell? ((⟨bb, off, none⟩ : Addr).add j) = some u := by
  intro j u hu
  rcases h with h | ⟨b', o', he, _, hc⟩
  · omega
  · injection he with he
    injection he with h1 h2
    subst h1 h2
    have hj : j < n := by
      rcases Nat.lt_or_ge j n with h | h
      · exact h
      · rw [List.getElem?_eq_none (by simp; omega)] at hu
        cases hu
    have hp : (⟨bb, off, none⟩ : Addr).add j = ⟨bb, off + j, none⟩ := by unfold Addr.add; split <;> simp_all
    rw [hp, hc j hj]
    simpa [List.getElem?_map, List.getElem?_range hj] using hu
theorem own_of {W : World} {base g n cap : Nat} {f : Nat → Int} (h : W.ownsRow base 2 1 (.slice (some ⟨g, 0, none⟩) n cap) n ((List.range n).map fun i => Value.int .i64 (f i))) (hn : 0 < n) : Own W g n f := by
  obtain ⟨_, ⟨_, h0⟩ | ⟨g', cap', cur, hv, hg, hh, hnc, hm, hs, ht⟩⟩ := h
  · omega
  · injection hv with h1 h2 h3
    injection h1 with h1
    injection h1 with h1
    subst h1
    refine ⟨lt_of_block hh, fun i hi => ?_, fun i hi => frozen_of_row _ _ _ _ _ hh⟩
    have h1 : (cur.toList.take (n * 1))[i]? = ((List.range n).map fun i => Value.int .i64 (f i))[i]? := by rw [ht]
    rw [List.getElem?_take_of_lt (by omega), List.getElem?_map, List.getElem?_range hi] at h1
    simpa [World.cell?, hh] using h1

theorem grown_below {V w1 : World} {o : Obj} (hg : (V.drew.alloc o).grownBy w1 (some V.heap.size)) : Below V.heap.size V w1 := by
  have h := (since_alloc (o := o) (since_drew (since_refl V))).below
  exact h.trans ⟨hg.os, hg.tape, hg.output, hg.size, fun k hk => hg.block k (Nat.lt_of_lt_of_le hk h.size) (fun e => by injection e with e; omega)⟩

theorem lies_ge {V : World} {o : Obj} {g : Nat} (hat : (Value.slice (some ⟨V.heap.size, 0, none⟩) 0 0).ownBlock = some g ∨ g = (V.drew.alloc o).heap.size) : V.heap.size ≤ g := by
  rcases hat with h | h
  · simp [Value.ownBlock] at h
    omega
  · rw [h]
    exact (since_alloc (o := o) (since_drew (since_refl V))).size

set_option maxHeartbeats 2000000 in
theorem copy_any (b : Int) (sa : Option Addr) (n cap : Nat) (f : Nat → Int) (w : World) (hn0 : 0 < n) (hn : n ≤ 1048576) (hr : Row w w.heap.size sa n f) :
    Calls Tryz.prog 95 #[.agg #[.int .i64 b, .slice sa n cap]] w fun e w' => NewVec w b n f e w' := by
  obtain ⟨bb, off, rfl⟩ : ∃ bb off : Nat, sa = some ⟨bb, off, none⟩ := by
    rcases hr with h | ⟨bb, off, h, _⟩
    · omega
    · exact ⟨bb, off, h⟩
  obtain ⟨i0, hi, hz0, hz1, hz2⟩ := info_parts Tryz.numInfo
  have HR : Hid (Row w w.heap.size (some ⟨bb, off, none⟩) n f) := hr
  clear hr
  have hlen : ((List.range n).map fun i => Value.int .i64 (f i)).length = n * 1 := by simp
  have hone : ∀ u ∈ (List.range n).map fun i => Value.int .i64 (f i), u.oneCell' = true := by
    intro u hu
    obtain ⟨i, _, rfl⟩ := List.mem_map.1 hu
    rfl
  go_enter Tryz.func95, Tryz.ntmps95
  go_wp2_with fail
  have q1 := boxing w 29 b (some ⟨bb, off, none⟩) n cap
  generalize w.alloc (.cells #[.int .i64 b, .slice (some ⟨bb, off, none⟩) n cap] 29) = v1 at *
  have q2 := boxing v1 29 0 none 0 0
  generalize v1.alloc (.cells #[.int .i64 0, .slice none 0 0] 29) = v2 at *
  have hx1 : Boxed v2 w.heap.size 29 b (some ⟨bb, off, none⟩) n cap := q1.2.1.kept q2.1 rfl
  have hx2 : Boxed v2 (w.heap.size + 1) 29 0 none 0 0 := by rw [← q1.2.2]; exact q2.2.1
  have hS : Since w v2 := since_call (since_call (since_refl _) q1.1) q2.1
  have hz : v2.heap.size = w.heap.size + 2 := by rw [q2.2.2, q1.2.2]
  have hnw : ∀ W : World, Since w W → ∀ (j : Nat) (u : Value), ((List.range n).map fun i => Value.int .i64 (f i))[j]? = some u → W.cell? ((⟨bb, off, none⟩ : Addr).add j) = some u := fun W h => news_row (row_since HR.out h) hn0
  have HNW : Hid (∀ W : World, Since w W → ∀ (j : Nat) (u : Value), ((List.range n).map fun i => Value.int .i64 (f i))[j]? = some u → W.cell? ((⟨bb, off, none⟩ : Addr).add j) = some u) := hnw
  have HX1 : Hid (Boxed v2 w.heap.size 29 b (some ⟨bb, off, none⟩) n cap) := hx1
  have HX2 : Hid (Boxed v2 (w.heap.size + 1) 29 0 none 0 0) := hx2
  have HS : Hid (Since w v2) := hS
  have HL : Hid (((List.range n).map fun i => Value.int .i64 (f i)).length = n * 1) := hlen
  have HO : Hid (∀ u ∈ (List.range n).map fun i => Value.int .i64 (f i), u.oneCell' = true) := hone
  clear q1 q2 hnw hlen hone hS
  obtain ⟨ca0, ca1⟩ := hx1.cells
  obtain ⟨cb0, cb1, cb2, cb3⟩ := hx2.four
  clear hx1 hx2
  have l1 : w.heap.size < v2.heap.size := by omega
  have l2 : w.heap.size + 1 < v2.heap.size := by omega
  go_region_law (refine step_append_lies _ rfl (.tmp 5) (.tmp 7) 26 rfl w.heap.size 2 i0 (.int .i64 0) 1 8 Tryz.underlying26 hi hz0 hz1 hz2 rfl (by decide) (.slice (some ⟨v2.heap.size, 0, none⟩) 0 0) 0 [] (by simp [Act.eval]) (World.ownsRow_made v2.drew #[] 0 (by show w.heap.size ≤ v2.heap.size; omega) (by decide) rfl) ⟨bb, off, none⟩ n cap _ (by simp [Act.eval]) HL.out (HNW.out _ (since_alloc (since_drew HS.out))) HO.out hn0 (by unfold maxLen; omega) (by omega) (since_alloc (since_drew HS.out)).size _ rfl ?_; intro g cp w1 hown hgrow hat hlt; have hb1 : Below v2.heap.size v2 w1 := grown_below hgrow; obtain ⟨ea0, ea1⟩ := (HX1.out.kept hb1 rfl).cells; obtain ⟨eb0, eb1, eb2, eb3⟩ := (HX2.out.kept hb1 rfl).four; have HB1 : Hid (Since w w1) := since_call HS.out hb1; have hgl : v2.heap.size ≤ g := lies_ge hat; have HOW : Hid (Own w1 g n f) := own_of (by simpa using hown) hn0; clear hown hgrow hat hb1)
  all_goals
    go_wp2
    refine bodyPost_ret (v := vecV b (some ⟨g, 0, none⟩) n cp) (by simp [results, Tryz.results95, go_sem, vecV, eb0, eb1]) rfl ?_
    exact ⟨_, _, rfl, (since_set (since_set HB1.out (by show w.heap.size ≤ w.heap.size + 1; omega)) (by show w.heap.size ≤ w.heap.size + 1; omega)).below, Or.inr ⟨g, rfl, by omega, (HOW.out.setOther _ _ (by show w.heap.size + 1 ≠ g; omega)).setOther _ _ (by show w.heap.size + 1 ≠ g; omega)⟩⟩
end Go.Proofs.YtfeolbgenpknfaaGreat
namespace Go.Proofs.YtfeolbgenpknfaaGreat
open Go.RowKit

theorem VecIs.get {f : Nat → Int} {P : Nat → Bool} {m k q : Nat} (h : VecIs f P m) (hk : k < m) (hq : q < 32) : getB (f k) q = P (32 * k + q) := by
  obtain ⟨a, e1, h1, h2⟩ := h k hk
  rw [← h2 q hq, e1]
  unfold getB
  have h3 : a / 2 ^ q < 2 ^ 32 := Nat.lt_of_le_of_lt (Nat.div_le_self _ _) h1
  have h4 := (bits_nat .i64 32 (by decide) wraps_i64w (a / 2 ^ q) 1 h3 (by decide)).1
  rw [show (a : Int) / 2 ^ q = ((a / 2 ^ q : Nat) : Int) by simp, show (1 : Int) = ((1 : Nat) : Int) from rfl, h4, Nat.testBit_eq_decide_div_mod_eq, Nat.and_one_is_mod]
  by_cases h5 : a / 2 ^ q % 2 = 1
  · rw [h5]; simp
  · rw [show a / 2 ^ q % 2 = 0 by omega]; simp
/-- Places, closed up to one of them. -/
def cloTo (S P : Nat → Bool) (k : Nat) : Nat → Bool := fun j => if j ≤ k then cloB S P j else P j
theorem cloTo_zero (S P : Nat → Bool) : ∀ j, P j = cloTo S P 0 j := fun j => by
  unfold cloTo
  cases j with
  | zero => rfl
  | succ j => rw [if_neg (by omega)]
theorem cloTo_at (S P : Nat → Bool) (k : Nat) : cloTo S P k k = cloB S P k := by unfold cloTo; rw [if_pos (Nat.le_refl _)]
theorem cloTo_yes {g : Nat → Int} {S P : Nat → Bool} {k m i r : Nat} (h : VecIs g (cloTo S P k) m) (hs : S (k + 1) = true) (hb : cloB S P k = true) (hi : i < m) (hr : r < 32) (e : 32 * i + r = k + 1) : VecIs (setF g i r true) (cloTo S P (k + 1)) m :=
  (h.set hi hr).congr (fun j => by
    show (cloTo S P k j || decide (32 * i + r = j)) = _
    rw [e]
    unfold cloTo
    by_cases e1 : k + 1 = j
    · subst e1
      rw [decide_eq_true rfl, if_pos (Nat.le_refl _), show cloB S P (k + 1) = (P (k + 1) || (S (k + 1) && cloB S P k)) from rfl, hs, hb]
      simp
    · rw [decide_eq_false e1, Bool.or_false]
      by_cases e2 : j ≤ k
      · rw [if_pos e2, if_pos (by omega)]
      · rw [if_neg e2, if_neg (by omega)])
theorem cloTo_no {g : Nat → Int} {S P : Nat → Bool} {k m : Nat} (h : VecIs g (cloTo S P k) m) (hb : (S (k + 1) && cloB S P k) = false) : VecIs g (cloTo S P (k + 1)) m :=
  h.congr (fun j => by
    unfold cloTo
    by_cases e1 : k + 1 = j
    · subst e1
      rw [if_neg (by omega), if_pos (Nat.le_refl _), show cloB S P (k + 1) = (P (k + 1) || (S (k + 1) && cloB S P k)) from rfl, hb, Bool.or_false]
    · by_cases e2 : j ≤ k
      · rw [if_pos e2, if_pos (by omega)]
      · rw [if_neg e2, if_neg (by omega)])
/-- A new vector that has just these bits. -/
def NewBits (w : World) (b : Int) (m : Nat) (P : Nat → Bool) (e : Ending) (w' : World) : Prop := ∃ h : Nat → Int, NewVec w b m h e w' ∧ VecIs h P m
theorem newBits_words {w w' : World} {b : Int} {m x : Nat} {P : Nat → Bool} {e : Ending} (h : NewBits w b m P e w') (hx : IsBits x P) : NewVec w b m (wordsN x) e w' := by
  obtain ⟨h, ⟨s, c, e1, hb, ho⟩, hv⟩ := h
  exact ⟨s, c, e1, hb, ho.congr (fun i hi => hv.uniq (vecIs_words hx m) i hi)⟩
set_option maxRecDepth 100000 in
set_option maxHeartbeats 4000000 in
theorem l07Close_any (sa : Option Addr) (n cap m : Nat) (f : Nat → Cel) (sv : Option Addr) (cv : Nat) (g0 : Nat → Int) (P : Nat → Bool) (w : World) (hn : n ≤ 60) (hr : CRow w w.heap.size sa n f) (hm : m = (n + 1 + 31) / 32) (hv : Row w w.heap.size sv m g0) (hP : VecIs g0 P m) (hPn : ∀ j, n < j → P j = false) :
    Calls Tryz.prog 84 #[.slice sa n cap, .agg #[.int .i64 ((n : Int) + 1), .slice sv m cv]] w fun e w' => NewBits w ((n : Int) + 1) m (cloB (skipB f n) P) e w' := by
  have HR : Hid (CRow w w.heap.size sa n f) := hr
  have HM : Hid (m = (n + 1 + 31) / 32) := hm
  have HP : Hid (VecIs g0 P m ∧ ∀ j, n < j → P j = false) := ⟨hP, hPn⟩
  have hm1 : 1 ≤ m := by omega
  have hmi : m ≤ 1048576 := by omega
  have q1 := boxing w 29 ((n : Int) + 1) sv m cv
  have RV : Hid (Row (w.alloc (.cells #[.int .i64 ((n : Int) + 1), .slice sv m cv] 29)) (w.alloc (.cells #[.int .i64 ((n : Int) + 1), .slice sv m cv] 29)).heap.size sv m g0) := row_since hv ⟨q1.1⟩
  clear hr hm hP hPn hv
  go_enter Tryz.func84, Tryz.ntmps84
  go_wp2_with fail
  generalize w.alloc (.cells #[.int .i64 ((n : Int) + 1), .slice sv m cv] 29) = v1 at *
  have q2 := boxing v1 29 0 none 0 0
  have RV2 : Hid (Row (v1.alloc (.cells #[.int .i64 0, .slice none 0 0] 29)) (v1.alloc (.cells #[.int .i64 0, .slice none 0 0] 29)).heap.size sv m g0) := row_since RV.out ⟨q2.1⟩
  clear RV
  generalize v1.alloc (.cells #[.int .i64 0, .slice none 0 0] 29) = v2 at *
  have S2 : Hid (Since w v2) := since_call (since_call (since_refl _) q1.1) q2.1
  obtain ⟨a9, ha9⟩ : ∃ a9, w.heap.size + 1 = a9 := ⟨_, rfl⟩
  have X2 : Hid (Boxed v2 a9 29 0 none 0 0) := by rw [← ha9, ← q1.2.2]; exact q2.2.1
  have hz2 : v2.heap.size = a9 + 1 := by have := q1.2.2; have := q2.2.2; omega
  have hwa : w.heap.size < a9 := by omega
  rw [ha9]
  clear q1 q2 ha9
  refine (copy_any ((n : Int) + 1) sv m cv g0 v2 (by omega) hmi RV2.out).mono ?_
  rintro e w3 ⟨s3, c3, rfl, hb3, ho3⟩
  unfold vecV
  have X3 : Hid (Boxed w3 a9 29 0 none 0 0) := X2.out.kept hb3 rfl
  have S3 : Hid (Since w w3) := since_call S2.out hb3
  obtain ⟨g, rfl, hgl, ho⟩ : ∃ g, s3 = some ⟨g, 0, none⟩ ∧ v2.heap.size ≤ g ∧ Own w3 g m g0 := by
    rcases ho3 with h | h
    · omega
    · exact h
  have O3 : Hid (Own w3 g m g0) := ho
  have hga : a9 < g := by omega
  have hg3 := ho.1
  have q4 := boxing w3 29 ((n : Int) + 1) (some ⟨g, 0, none⟩) m c3
  clear hb3 ho3 ho hgl X2 S2 RV2
  go_wp2_with fail
  generalize w3.alloc (.cells #[.int .i64 ((n : Int) + 1), .slice (some ⟨g, 0, none⟩) m c3] 29) = v4 at *
  have X4 : Hid (Boxed v4 a9 29 0 none 0 0) := X3.out.kept q4.1 rfl
  have Y4 : Hid (Boxed v4 w3.heap.size 29 ((n : Int) + 1) (some ⟨g, 0, none⟩) m c3) := q4.2.1
  have S4 : Hid (Since w v4) := since_call S3.out q4.1
  have O4 : Hid (Own v4 g m g0) := O3.out.kept q4.1 hg3
  clear q4 X3 S3 O3
  have hgp0 : g < w3.heap.size := hg3
  clear hg3
  generalize w3.heap.size = p at *
  go_loopw [6] (fun iv wr => ∃ (k : Nat) (h : Nat → Int), k ≤ n ∧ iv = .int .i64 (k : Int) ∧ Boxed wr a9 29 0 none 0 0 ∧ Boxed wr p 29 ((n : Int) + 1) (some ⟨g, 0, none⟩) m c3 ∧ Since w wr ∧ Own wr g m h ∧ VecIs h (cloTo (skipB f n) P k) m) (fun iv _ => n - (intOf iv).toNat)
  case atStart => exact ⟨0, _, Nat.zero_le _, rfl, X4.out, Y4.out, S4.out, O4.out, HP.out.1.congr (cloTo_zero _ _)⟩
  case round =>
    obtain ⟨k, h, hk, rfl, hX, hY, hS, hO, hV⟩ := hrel
    have HXB : Hid (Boxed wr a9 29 0 none 0 0) := hX
    have HY : Hid (Boxed wr p 29 ((n : Int) + 1) (some ⟨g, 0, none⟩) m c3) := hY
    have HS : Hid (Since w wr) := hS
    have HO : Hid (Own wr g m h) := hO
    have HV : Hid (VecIs h (cloTo (skipB f n) P k) m) := hV
    obtain ⟨y0, y1⟩ := hY.cells
    have ylt := hY.lt
    by_cases hkl : k < n
    · obtain ⟨bb, off, rfl, hbb, hat⟩ := HR.out.keptV hS.below hkl
      obtain ⟨c0, d1, d2⟩ := hat
      have hki : (k : Int) < (n : Int) := by omega
      have hk0 : (0 : Int) ≤ (k : Int) := by omega
      obtain ⟨⟨ac, al, am⟩, ha⟩ : ∃ a, f k = a := ⟨_, rfl⟩
      rw [ha] at c0 d1 d2
      simp only at c0 d1 d2
      have HSK : Hid (skipB f n (k + 1) = al) := by show skipB f n (k + 1) = al; rw [skip_at hkl, ha]
      clear ha hX hS hO hV hY
      cases al with
      | false =>
        have N2 := cloTo_no HV.out (by rw [HSK.out]; rfl)
        go_wp2_with fail
        go_roundw
        case rel => exact ⟨k + 1, h, by omega, by go_num, HXB.out, HY.out, HS.out, HO.out, N2⟩
        case measure => simp [intOf]; omega
      | true =>
        obtain ⟨i8, hi8⟩ : ∃ i8, k / 32 = i8 := ⟨_, rfl⟩
        obtain ⟨r8, hr8⟩ : ∃ r8, k % 32 = r8 := ⟨_, rfl⟩
        obtain ⟨i9, hi9⟩ : ∃ i9, (k + 1) / 32 = i9 := ⟨_, rfl⟩
        obtain ⟨r9, hr9⟩ : ∃ r9, (k + 1) % 32 = r9 := ⟨_, rfl⟩
        have hm9 := HM.out
        have CG := l02Get_any ((n : Int) + 1) (some ⟨g, 0, none⟩) m c3 i8 r8 h (k : Int) wr hmi (HO.out.row HO.out.1) hk0 (by omega) (by omega) (by omega)
        have hgb : getB (h i8) r8 = cloB (skipB f n) P k := by rw [HV.out.get (by omega) (by omega), show 32 * i8 + r8 = k by omega, cloTo_at]
        rw [hgb] at CG
        cases hb : cloB (skipB f n) P k with
        | false =>
          have N2 := cloTo_no HV.out (by rw [hb, Bool.and_false])
          rw [hb] at CG
          clear hb hgb hi8 hr8 hi9 hr9 hm9
          go_wp2_with (first | (go_at_call 75; refine CG.mono ?_; rintro e w9 ⟨rfl, hb9⟩; have K9 : Hid (Boxed w9 a9 29 0 none 0 0 ∧ Boxed w9 p 29 ((n : Int) + 1) (some ⟨g, 0, none⟩) m c3 ∧ Since w w9 ∧ Own w9 g m h) := ⟨HXB.out.kept hb9 rfl, HY.out.kept hb9 rfl, since_call HS.out hb9, HO.out.kept hb9 HO.out.1⟩; clear hb9))
          go_roundw
          case rel => exact ⟨k + 1, h, by omega, by go_num, K9.out.1, K9.out.2.1, K9.out.2.2.1, K9.out.2.2.2, N2⟩
          case measure => simp [intOf]; omega
        | true =>
          have him : i9 < m := by omega
          have hrm : r9 < 32 := by omega
          have Y2 := cloTo_yes (i := i9) (r := r9) HV.out HSK.out hb him hrm (by omega)
          rw [hb] at CG
          have CS : Hid (∀ W, Own W g m h → Calls Tryz.prog 83 #[.agg #[.int .i64 ((n : Int) + 1), .slice (some ⟨g, 0, none⟩) m c3], .int .i64 ((k : Int) + 1), .bool true] W fun e w' => e = .returned (.tuple #[]) ∧ W.grownBy w' (some g) ∧ Own w' g m (setF h i9 r9 true)) := fun W ho => l02Set_any ((n : Int) + 1) g m c3 i9 r9 h ((k : Int) + 1) true W hmi ho (by omega) (by omega) (by omega) him hrm
          have hgp : g ≠ p := by omega
          clear hb hgb hi8 hr8 hi9 hr9 hm9 him hrm
          go_wp2_with (first | (go_at_call 75; refine CG.mono ?_; rintro e w9 ⟨rfl, hb9⟩; have K9 : Hid (Boxed w9 a9 29 0 none 0 0 ∧ Boxed w9 p 29 ((n : Int) + 1) (some ⟨g, 0, none⟩) m c3 ∧ Since w w9 ∧ Own w9 g m h) := ⟨HXB.out.kept hb9 rfl, HY.out.kept hb9 rfl, since_call HS.out hb9, HO.out.kept hb9 HO.out.1⟩; obtain ⟨z0, z1⟩ := K9.out.2.1.cells; have zlt := K9.out.2.1.lt; clear hb9) | (go_at_call 83; refine (CS.out _ K9.out.2.2.2).mono ?_; rintro e w10 ⟨rfl, hg9, ho9⟩; have K10 : Hid (Boxed w10 a9 29 0 none 0 0 ∧ Boxed w10 p 29 ((n : Int) + 1) (some ⟨g, 0, none⟩) m c3 ∧ Since w w10 ∧ Own w10 g m (setF h i9 r9 true)) := ⟨boxed_grownS K9.out.1 hg9 (by omega), boxed_grownS K9.out.2.1 hg9 (by omega), since_grown K9.out.2.2.1 hg9 (by omega), ho9⟩; clear hg9 ho9))
          go_roundw
          case rel => exact ⟨k + 1, _, by omega, by go_num, K10.out.1, K10.out.2.1, K10.out.2.2.1, K10.out.2.2.2, Y2⟩
          case measure => simp [intOf]; omega
    · have hki : ¬ (k : Int) < (n : Int) := by omega
      obtain rfl : k = n := by omega
      obtain ⟨a0, a1, a2, a3⟩ := hX.four
      have xlt := hX.lt
      have hne1 : a9 ≠ p := by omega
      have HV2 : Hid (VecIs h (cloB (skipB f k) P) m) := hV.congr (fun j => by
        unfold cloTo
        by_cases hj : j ≤ k
        · rw [if_pos hj]
        · rw [if_neg hj, HP.out.2 j (by omega), clo_le (skip_le f k) HP.out.2 j (by omega)])
      clear hX hY hS hO hV
      go_wp2_with fail
      refine bodyPost_ret (v := vecV ((k : Int) + 1) (some ⟨g, 0, none⟩) m c3) (by simp [results, Tryz.results84, go_sem, vecV, a0, a1]) rfl ?_
      exact ⟨h, ⟨_, _, rfl, (since_set (since_set HS.out (by show w.heap.size ≤ a9; omega)) (by show w.heap.size ≤ a9; omega)).below, Or.inr ⟨g, rfl, by omega, (HO.out.setOther _ _ (by show a9 ≠ g; omega)).setOther _ _ (by show a9 ≠ g; omega)⟩⟩, HV2.out⟩
end Go.Proofs.YtfeolbgenpknfaaGreat
