/- What is proved here: the law of CloseOver walks to true at every input, and nothing that was there turns. -/
import Derived.Test.YthnnenbpbkmbhaaQKCloL
import Derived.Test.YthnnenbpbkmbhaaQSpecCloVW
import Derived.Test.YthnnenbpbkmbhaaQImplCloW
namespace Go.Proofs.Ythnnenbpbkmbhaa
open Go.RowKit

open Classical in
set_option maxRecDepth 100000 in
set_option maxHeartbeats 4000000 in
theorem specClo_no (sa : Option Addr) (n cap : Nat) (f : Nat → Cel) (b : Int) (sv : Option Addr) (m cv : Nat) (g : Nat → Int) (w : World) (hn : n ≤ maxLen) (hr : CRow w w.heap.size sa n f) (hc : ∀ i, i < n → (f i).c.size ≤ maxLen) (hm : m ≤ 1048576) (hv : Row w w.heap.size sv m g) (h : ¬ CloP n f b m g) :
    Calls Try.prog 31 #[.slice sa n cap, .agg #[.int .i64 b, .slice sv m cv]] w fun e w' => NewVec w 0 0 (fun _ => 0) e w' := by
  have q1 := boxing w 26 b sv m cv
  have q2 := boxing (w.alloc (.cells #[.int .i64 b, .slice sv m cv] 26)) 26 0 none 0 0
  have S2 : Hid (Since w ((w.alloc (.cells #[.int .i64 b, .slice sv m cv] 26)).alloc (.cells #[.int .i64 0, .slice none 0 0] 26))) := since_call (since_call (since_refl _) q1.1) q2.1
  have C := l07Vec_any sa n cap f b sv m cv g _ hn ((hr.kept S2.out.below).up S2.out.size) hc hm (row_since hv S2.out)
  rw [decide_eq_false (show ¬ (CellsOk n f ∧ OfRow b m g n) from h)] at C
  have X2 := q2.2.1
  rw [q1.2.2] at X2
  have Y2 := q1.2.1.kept q2.1 rfl
  clear hn hr hc hm hv h q1 q2
  go_enter Try.func31, Try.ntmps31
  go_wp2_with fail
  generalize (w.alloc (.cells #[.int .i64 b, .slice sv m cv] 26)).alloc (.cells #[.int .i64 0, .slice none 0 0] 26) = v2 at *
  refine C.mono ?_
  rintro e w3 ⟨rfl, hb3⟩
  obtain ⟨a0, a1, a2, a3⟩ := (X2.kept hb3 rfl).four
  have xlt := (X2.kept hb3 rfl).lt
  have S3 : Hid (Since w w3) := since_call S2.out hb3
  clear C hb3 X2 Y2 S2
  go_wp2_with fail
  refine bodyPost_ret (v := vecV 0 none 0 0) (by simp [results, Try.results31, go_sem, vecV, a0, a1]) rfl ?_
  exact newVec_zero S3.out (by omega)
open Classical in
set_option maxRecDepth 100000 in
set_option maxHeartbeats 4000000 in
theorem specClo_yes (sa : Option Addr) (n cap : Nat) (f : Nat → Cel) (sv : Option Addr) (m cv x : Nat) (g : Nat → Int) (w : World) (hn : n ≤ maxLen) (hr : CRow w w.heap.size sa n f) (hc : ∀ i, i < n → (f i).c.size ≤ maxLen) (hv : Row w w.heap.size sv m g) (hk : CellsOk n f) (hm : m = (n + 1 + 31) / 32) (hR : Right ((n : Int) + 1) m g) (hx : IsBits x (cloB (skipB f n) (bitsOf g n))) :
    Calls Try.prog 31 #[.slice sa n cap, .agg #[.int .i64 ((n : Int) + 1), .slice sv m cv]] w fun e w' => NewVec w ((n : Int) + 1) m (wordsN x) e w' := by
  have q1 := boxing w 26 ((n : Int) + 1) sv m cv
  have q2 := boxing (w.alloc (.cells #[.int .i64 ((n : Int) + 1), .slice sv m cv] 26)) 26 0 none 0 0
  have S2 : Hid (Since w ((w.alloc (.cells #[.int .i64 ((n : Int) + 1), .slice sv m cv] 26)).alloc (.cells #[.int .i64 0, .slice none 0 0] 26))) := since_call (since_call (since_refl _) q1.1) q2.1
  have hn60 := hk.2.1
  have C := l07Vec_any sa n cap f ((n : Int) + 1) sv m cv g _ hn ((hr.kept S2.out.below).up S2.out.size) hc (by omega) (row_since hv S2.out)
  rw [decide_eq_true (show CellsOk n f ∧ OfRow ((n : Int) + 1) m g n from ⟨hk, hR, rfl⟩)] at C
  have HC : Hid (∀ W, Since w W → Calls Try.prog 95 #[.slice sa n cap, .agg #[.int .i64 ((n : Int) + 1), .slice sv m cv]] W fun e w' => NewVec W ((n : Int) + 1) m (wordsN x) e w') := fun W hW =>
    (l07Close_any sa n cap m f sv cv g (bitsOf g n) W hn60 ((hr.kept hW.below).up hW.size) hm (row_since hv hW) (vecIs_right hm hR) (bitsOf_le g n)).mono (fun _ _ h => newBits_words h hx)
  have X2 := q2.2.1
  rw [q1.2.2] at X2
  have Y2 := q1.2.1.kept q2.1 rfl
  clear hn hr hc hm hv hk hR hx q1 q2
  go_enter Try.func31, Try.ntmps31
  go_wp2_with fail
  generalize (w.alloc (.cells #[.int .i64 ((n : Int) + 1), .slice sv m cv] 26)).alloc (.cells #[.int .i64 0, .slice none 0 0] 26) = v2 at *
  refine C.mono ?_
  rintro e w3 ⟨rfl, hb3⟩
  have X3 : Hid (Boxed w3 (w.heap.size + 1) 26 0 none 0 0) := X2.kept hb3 rfl
  obtain ⟨y0, y1⟩ := (Y2.kept hb3 rfl).cells
  have ylt := (Y2.kept hb3 rfl).lt
  have S3 : Hid (Since w w3) := since_call S2.out hb3
  clear C hb3 X2 Y2 S2
  go_wp2_with fail
  refine (HC.out w3 S3.out).mono ?_
  rintro e w5 ⟨s3, c3, rfl, hb5, ho5⟩
  unfold vecV
  obtain ⟨a0, a1, a2, a3⟩ := (X3.out.kept hb5 rfl).four
  have xlt := (X3.out.kept hb5 rfl).lt
  have xlt5 := X3.out.lt
  have S5 : Hid (Since w w5) := since_call S3.out hb5
  have O5 : Hid (OwnS w5 w3.heap.size s3 m (wordsN x)) := ho5
  clear hb5 ho5 y0 y1 ylt
  go_wp2_with fail
  refine bodyPost_ret (v := vecV ((n : Int) + 1) s3 m c3) (by simp [results, Try.results31, go_sem, vecV, a0, a1]) rfl ?_
  refine ⟨_, _, rfl, (since_set (since_set S5.out (by show w.heap.size ≤ w.heap.size + 1; omega)) (by show w.heap.size ≤ w.heap.size + 1; omega)).below, ?_⟩
  rcases O5.out with h | ⟨g5, h1, h2, h3⟩
  · exact Or.inl h
  · exact Or.inr ⟨g5, h1, by omega, (h3.setOther _ _ (by show w.heap.size + 1 ≠ g5; omega)).setOther _ _ (by show w.heap.size + 1 ≠ g5; omega)⟩
open Classical in
theorem end_CloseOver (sa : Option Addr) (n cap : Nat) (f : Nat → Cel) (b1 : Int) (sa1 : Option Addr) (n1 ca1 : Nat) (f1 : Nat → Int) (w : World) (hn : n ≤ maxLen) (hr : CRow w w.heap.size sa n f) (hc : ∀ i, i < n → (f i).c.size ≤ maxLen) (hm1 : n1 ≤ maxLen) (hr1 : Row w w.heap.size sa1 n1 f1) :
    Calls Try.prog 5 #[.slice sa n cap, .agg #[.int .i64 b1, .slice sa1 n1 ca1]] w fun e w' => e = .returned (.bool true) ∧ Below w.heap.size w w' := by
  by_cases h : CloP n f b1 n1 f1
  · obtain ⟨hk, hR, rfl⟩ := h
    have hn60 := hk.2.1
    have hm : n1 = (n + 1 + 31) / 32 := by have := hR.2.2.1; omega
    obtain ⟨x, hx⟩ := clo_ex (n := n) (by omega) (skip_le f n) (bitsOf_le f1 n)
    exact law_CloseOver sa n cap f ((n : Int) + 1) sa1 n1 ca1 f1 ((n : Int) + 1) n1 (wordsN x) w hn hr hc hm1 hr1 (by omega)
      (fun _ _ _ W y k y1 k1 hy hy1 => specClo_yes y n k f y1 n1 k1 x f1 W hn hy hc hy1 hk hm hR hx)
      (fun _ _ _ W y k y1 k1 hy hy1 => implClo_yes y n k f y1 n1 k1 x f1 W hn hy hc hy1 hk hm hR hx)
  · exact law_CloseOver sa n cap f b1 sa1 n1 ca1 f1 0 0 (fun _ => 0) w hn hr hc hm1 hr1 (by omega)
      (fun _ _ hl W y k y1 k1 hy hy1 => specClo_no y n k f b1 y1 n1 k1 f1 W hn hy hc hl hy1 h)
      (fun _ _ hl W y k y1 k1 hy hy1 => implClo_no y n k f b1 y1 n1 k1 f1 W hn hy hc hl hy1 h)
end Go.Proofs.Ythnnenbpbkmbhaa
