/- What is proved here: the program's CloseOver hands back the places of a right vector, closed, in new memory, or nothing; nothing that was there turns. -/
import Derived.Test.YthnnenbpbkmbhaaQPlacesW
import Derived.Test.YthnnenbpbkmbhaaQRowOfW
import Derived.Test.YthnnenbpbkmbhaaQClosedW
import Derived.Test.YthnnenbpbkmbhaaQPVecW
namespace Go.Proofs.Ythnnenbpbkmbhaa
open Go.RowKit

/-- What is asked is right: right cells, and a right vector of as many bits as there are places. -/
def CloP (n : Nat) (f : Nat → Cel) (b : Int) (m : Nat) (g : Nat → Int) : Prop := CellsOk n f ∧ OfRow b m g n
theorem newVec_zero {w W : World} {a : Nat} (hS : Since w W) (ha : w.heap.size ≤ a) : NewVec w 0 0 (fun _ => 0) (.returned (vecV 0 none 0 0)) ((W.setCell ⟨a, 0, none⟩ (.int .i64 0)).setCell ⟨a, 1, none⟩ (.slice none 0 0)) :=
  ⟨_, _, rfl, (since_set (since_set hS ha) ha).below, Or.inl rfl⟩
open Classical in
set_option maxRecDepth 100000 in
set_option maxHeartbeats 4000000 in
theorem implClo_no (sa : Option Addr) (n cap : Nat) (f : Nat → Cel) (b : Int) (sv : Option Addr) (m cv : Nat) (g : Nat → Int) (w : World) (hn : n ≤ maxLen) (hr : CRow w w.heap.size sa n f) (hc : ∀ i, i < n → (f i).c.size ≤ maxLen) (hm : m ≤ 1048576) (hv : Row w w.heap.size sv m g) (h : ¬ CloP n f b m g) :
    Calls Try.prog 33 #[.slice sa n cap, .agg #[.int .i64 b, .slice sv m cv]] w fun e w' => NewVec w 0 0 (fun _ => 0) e w' := by
  have q1 := boxing w 26 b sv m cv
  have q2 := boxing (w.alloc (.cells #[.int .i64 b, .slice sv m cv] 26)) 26 0 none 0 0
  have S2 : Hid (Since w ((w.alloc (.cells #[.int .i64 b, .slice sv m cv] 26)).alloc (.cells #[.int .i64 0, .slice none 0 0] 26))) := since_call (since_call (since_refl _) q1.1) q2.1
  have hr2 := (hr.kept S2.out.below).up S2.out.size
  have RV : Hid (Row w w.heap.size sv m g) := hv
  have Y2 := q1.2.1.kept q2.1 rfl
  have e9 := q1.2.2
  by_cases hk : CellsOk n f
  · have hof : ¬ OfRow b m g n := fun h9 => h ⟨hk, h9⟩
    have C := rowOf_yes sa n cap f _ hn hr2 hc hk
    have hn60 := hk.2.1
    have HOF : Hid (∀ W, Since w W → Calls Try.prog 97 #[.agg #[.int .i64 b, .slice sv m cv], .int .i64 (n : Int)] W fun e w' => e = .returned (.bool false) ∧ Below W.heap.size W w') := fun W hW => by
      have h9 := isOfRow_any b sv m cv n g W hn60 hm (row_since RV.out hW)
      rw [decide_eq_false hof] at h9
      exact h9
    clear hn hr hc h hk hof hr2 hv
    go_enter Try.func33, Try.ntmps33
    go_wp2_with fail
    generalize (w.alloc (.cells #[.int .i64 b, .slice sv m cv] 26)).alloc (.cells #[.int .i64 0, .slice none 0 0] 26) = v2 at *
    rw [e9] at q2
    clear e9 q1
    refine C.mono ?_
    rintro e w3 ⟨rb, sk, lo, rfl, hbl, hb3, hsk, hlo, hrow⟩
    have S3 : Hid (Since w w3) := since_call S2.out hb3
    obtain ⟨y0, y1⟩ := (Y2.kept hb3 rfl).cells
    have Y3 := Y2.kept hb3 rfl
    have X3 := q2.2.1.kept hb3 rfl
    clear C hb3 hsk hlo hrow hbl q2 Y2 S2
    go_wp2_with (first | (go_at_call 97; refine (HOF.out _ S3.out).mono ?_; rintro e w4 ⟨rfl, hb4⟩; have S4 : Hid (Since w w4) := since_call S3.out hb4; obtain ⟨a0, a1, a2, a3⟩ := (X3.kept hb4 rfl).four; have xlt := (X3.kept hb4 rfl).lt; clear hb4))
    refine bodyPost_ret (v := vecV 0 none 0 0) (by simp [results, Try.results33, go_sem, vecV, a0, a1]) rfl ?_
    exact newVec_zero S4.out (by omega)
  · have C := rowOf_no sa n cap f _ hn hr2 hc hk
    clear hn hr hc h hk hr2 hv RV
    go_enter Try.func33, Try.ntmps33
    go_wp2_with fail
    generalize (w.alloc (.cells #[.int .i64 b, .slice sv m cv] 26)).alloc (.cells #[.int .i64 0, .slice none 0 0] 26) = v2 at *
    rw [e9] at q2
    clear e9 q1
    refine C.mono ?_
    rintro e w3 ⟨rfl, hb3⟩
    have S3 : Hid (Since w w3) := since_call S2.out hb3
    obtain ⟨a0, a1, a2, a3⟩ := (q2.2.1.kept hb3 rfl).four
    have xlt := (q2.2.1.kept hb3 rfl).lt
    clear C hb3 q2 Y2 S2
    go_wp2_with fail
    refine bodyPost_ret (v := vecV 0 none 0 0) (by simp [results, Try.results33, go_sem, vecV, a0, a1]) rfl ?_
    exact newVec_zero S3.out (by omega)
open Classical in
set_option maxRecDepth 100000 in
set_option maxHeartbeats 4000000 in
theorem implClo_yes (sa : Option Addr) (n cap : Nat) (f : Nat → Cel) (sv : Option Addr) (m cv x : Nat) (g : Nat → Int) (w : World) (hn : n ≤ maxLen) (hr : CRow w w.heap.size sa n f) (hc : ∀ i, i < n → (f i).c.size ≤ maxLen) (hv : Row w w.heap.size sv m g) (hk : CellsOk n f) (hm : m = (n + 1 + 31) / 32) (hR : Right ((n : Int) + 1) m g) (hx : IsBits x (cloB (behind (fun i => (f i).k) n) (bitsOf g n))) :
    Calls Try.prog 33 #[.slice sa n cap, .agg #[.int .i64 ((n : Int) + 1), .slice sv m cv]] w fun e w' => NewVec w ((n : Int) + 1) m (wordsN x) e w' := by
  have q1 := boxing w 26 ((n : Int) + 1) sv m cv
  have q2 := boxing (w.alloc (.cells #[.int .i64 ((n : Int) + 1), .slice sv m cv] 26)) 26 0 none 0 0
  have S2 : Hid (Since w ((w.alloc (.cells #[.int .i64 ((n : Int) + 1), .slice sv m cv] 26)).alloc (.cells #[.int .i64 0, .slice none 0 0] 26))) := since_call (since_call (since_refl _) q1.1) q2.1
  have hr2 := (hr.kept S2.out.below).up S2.out.size
  have RV : Hid (Row w w.heap.size sv m g) := hv
  have Y2 := q1.2.1.kept q2.1 rfl
  have e9 := q1.2.2
  have C := rowOf_yes sa n cap f _ hn hr2 hc hk
  have hn60 := hk.2.1
  have hm2 : m ≤ 2 := by omega
  have HX : Hid (IsBits x (cloB (behind (fun i => (f i).k) n) (bitsOf g n))) := hx
  have HM : Hid (m = (n + 1 + 31) / 32) := hm
  have HOF : Hid (∀ W, Since w W → Calls Try.prog 97 #[.agg #[.int .i64 ((n : Int) + 1), .slice sv m cv], .int .i64 (n : Int)] W fun e w' => e = .returned (.bool true) ∧ Below W.heap.size W w') := fun W hW => by
    have h9 := isOfRow_any ((n : Int) + 1) sv m cv n g W hn60 (by omega) (row_since RV.out hW)
    rw [decide_eq_true (show OfRow ((n : Int) + 1) m g n from ⟨hR, rfl⟩)] at h9
    exact h9
  have HPL : Hid (∀ W, Since w W → Calls Try.prog 99 #[.agg #[.int .i64 ((n : Int) + 1), .slice sv m cv]] W fun e w' => ∃ y : Nat, e = .returned (.int .u64 (y : Int)) ∧ IsBits y (bitsOf g n) ∧ Below W.heap.size W w') := fun W hW =>
    placesOf_any ((n : Int) + 1) sv m cv g (bitsOf g n) W hm2 (row_since RV.out hW) (vecIs_right hm hR) (fun j hj => bitsOf_le g n j (by omega))
  clear hn hr hc hk hr2 hv hx hm hR
  go_enter Try.func33, Try.ntmps33
  go_wp2_with fail
  generalize (w.alloc (.cells #[.int .i64 ((n : Int) + 1), .slice sv m cv] 26)).alloc (.cells #[.int .i64 0, .slice none 0 0] 26) = v2 at *
  have hz2 := q2.2.2
  rw [e9] at q2 hz2
  clear e9 q1
  refine C.mono ?_
  rintro e w3 ⟨rb, sk, lo, rfl, hbl, hb3, hsk, hlo, hrow⟩
  have S3 : Hid (Since w w3) := since_call S2.out hb3
  have HSK : Hid (IsBits sk (behind (fun i => (f i).k) n)) := hsk
  have HROW : Hid (KRow w3 rb sa n cap sk lo 0 0 (fun _ => 0)) := hrow
  have Y3 : Hid (Boxed w3 w.heap.size 26 ((n : Int) + 1) sv m cv) := Y2.kept hb3 rfl
  have X3 : Hid (Boxed w3 (w.heap.size + 1) 26 0 none 0 0) := q2.2.1.kept hb3 rfl
  obtain ⟨y0, y1⟩ := Y3.out.cells
  clear C hb3 hsk hlo hrow hbl q2 Y2 S2
  go_wp2_with (first | (go_at_call 97; refine (HOF.out _ S3.out).mono ?_; rintro e w4 ⟨rfl, hb4⟩; have S4 : Hid (Since w w4) := since_call S3.out hb4; have ROW4 : Hid (KRow w4 rb sa n cap sk lo 0 0 (fun _ => 0)) := HROW.out.kept hb4 HROW.out.lt; have X4 : Hid (Boxed w4 (w.heap.size + 1) 26 0 none 0 0) := X3.out.kept hb4 rfl; obtain ⟨z0, z1⟩ := (Y3.out.kept hb4 rfl).cells; clear hb4))
  refine (HPL.out w4 S4.out).mono ?_
  rintro e w5 ⟨y, rfl, hy, hb5⟩
  have S5 : Hid (Since w w5) := since_call S4.out hb5
  have ROW5 : Hid (KRow w5 rb sa n cap sk lo 0 0 (fun _ => 0)) := ROW4.out.kept hb5 ROW4.out.lt
  have X5 : Hid (Boxed w5 (w.heap.size + 1) 26 0 none 0 0) := X4.out.kept hb5 rfl
  have HY : Hid (IsBits y (bitsOf g n)) := hy
  clear hb5 hy y0 y1 z0 z1 S4 S3 ROW4 HROW X4 X3 Y3
  go_wp2_with fail
  refine (closed_any rb y sk n _ _ w5 hn60 ROW5.out.c1 ROW5.out.lt HSK.out (behind_le _ n) HY.out (bitsOf_le g n)).mono ?_
  rintro e w6 ⟨x6, rfl, hx6, hw6⟩
  rw [hw6]
  obtain rfl := HX.out.uniq hx6
  clear hx6 hw6 w6
  go_wp2_with fail
  refine (pvec_any x n m w5 HX.out.lt hn60 HM.out).mono ?_
  rintro e w7 ⟨s3, c3, rfl, hb7, ho7⟩
  unfold vecV
  obtain ⟨a0, a1, a2, a3⟩ := (X5.out.kept hb7 rfl).four
  have xlt := (X5.out.kept hb7 rfl).lt
  have xlt5 := X5.out.lt
  have S7 : Hid (Since w w7) := since_call S5.out hb7
  have O7 : Hid (OwnS w7 w5.heap.size s3 m (wordsN x)) := ho7
  clear hb7 ho7
  go_wp2_with fail
  refine bodyPost_ret (v := vecV ((n : Int) + 1) s3 m c3) (by simp [results, Try.results33, go_sem, vecV, a0, a1]) rfl ?_
  refine ⟨_, _, rfl, (since_set (since_set S7.out (by show w.heap.size ≤ w.heap.size + 1; omega)) (by show w.heap.size ≤ w.heap.size + 1; omega)).below, ?_⟩
  rcases O7.out with h | ⟨g5, h1, h2, h3⟩
  · exact Or.inl h
  · exact Or.inr ⟨g5, h1, by omega, (h3.setOther _ _ (by show w.heap.size + 1 ≠ g5; omega)).setOther _ _ (by show w.heap.size + 1 ≠ g5; omega)⟩
end Go.Proofs.Ythnnenbpbkmbhaa
