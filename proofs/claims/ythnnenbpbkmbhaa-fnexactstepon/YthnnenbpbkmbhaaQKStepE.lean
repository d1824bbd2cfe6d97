/- What is proved here: the law of StepOn walks to true at every input, and nothing that was there turns. -/
import Derived.Test.YthnnenbpbkmbhaaQKStepL
import Derived.Test.YthnnenbpbkmbhaaQSpecCloVW
import Derived.Test.YthnnenbpbkmbhaaQSpecStepW
import Derived.Test.YthnnenbpbkmbhaaQImplSOnW
namespace Go.Proofs.Ythnnenbpbkmbhaa
open Go.RowKit

theorem stepBits_words {w w' : World} {b : Int} {m x : Nat} {P : Nat → Bool} {t : Bool} {e : Ending} (h : StepBits w b m P t e w') (hx : IsBits x P) : NewStep w b m (wordsN x) t e w' := by
  obtain ⟨h, ⟨s, c, e1, hb, ho⟩, hv⟩ := h
  exact ⟨s, c, e1, hb, ho.congr (fun i hi => hv.uniq (vecIs_words hx m) i hi)⟩
open Classical in
set_option maxRecDepth 100000 in
set_option maxHeartbeats 4000000 in
theorem specSOn_no (sa : Option Addr) (n cap : Nat) (f : Nat → Cel) (b : Int) (sv : Option Addr) (m cv : Nat) (g : Nat → Int) (en : Int) (w : World) (hn : n ≤ maxLen) (hr : CRow w w.heap.size sa n f) (hc : ∀ i, i < n → (f i).c.size ≤ maxLen) (hm : m ≤ 1048576) (hv : Row w w.heap.size sv m g) (h : ¬ StepP n f b m g en) :
    Calls Try.prog 43 #[.slice sa n cap, .agg #[.int .i64 b, .slice sv m cv], .int .i64 en] w fun e w' => NewStep w 0 0 (fun _ => 0) false e w' := by
  have q1 := boxing w 26 b sv m cv
  have q2 := sboxing (w.alloc (.cells #[.int .i64 b, .slice sv m cv] 26)) 0 none 0 0 false
  have S2 : Hid (Since w ((w.alloc (.cells #[.int .i64 b, .slice sv m cv] 26)).alloc (.cells #[.int .i64 0, .slice none 0 0, .bool false] 63))) := since_call (since_call (since_refl _) q1.1) q2.1
  have C := l07Vec_any sa n cap f b sv m cv g _ hn ((hr.kept S2.out.below).up S2.out.size) hc hm (row_since hv S2.out)
  have Y2 := q1.2.1.kept q2.1 rfl
  have X2 := q2.2.1
  rw [q1.2.2] at X2
  clear q1 q2
  by_cases hk : CellsOk n f ∧ OfRow b m g n
  · have HEN : Hid (¬ (0 ≤ en ∧ en ≤ 255)) := fun h9 => h ⟨hk.1, hk.2, h9.1, h9.2⟩
    rw [decide_eq_true hk] at C
    clear hn hr hc hm hv h hk
    go_enter Try.func43, Try.ntmps43
    go_wp2_with fail
    generalize (w.alloc (.cells #[.int .i64 b, .slice sv m cv] 26)).alloc (.cells #[.int .i64 0, .slice none 0 0, .bool false] 63) = v2 at *
    refine C.mono ?_
    rintro e w3 ⟨rfl, hb3⟩
    obtain ⟨a0, a1, a2, a3, a4, a5⟩ := (X2.kept hb3 rfl).six
    have xlt := (X2.kept hb3 rfl).lt
    have S3 : Hid (Since w w3) := since_call S2.out hb3
    clear C hb3 X2 Y2 S2
    go_wp2_with (first | (go_at_call 116; refine (is_no _ _ _ _ HEN.out).mono ?_; rintro e w9 ⟨rfl, hw9⟩; rw [hw9]; clear hw9 w9))
    refine bodyPost_ret (v := stepV 0 none 0 0 false) (by simp [results, Try.results43, go_sem, stepV, a0, a1, a2]) rfl ?_
    exact newStep_zero S3.out (by omega)
  · rw [decide_eq_false hk] at C
    clear hn hr hc hm hv h hk
    go_enter Try.func43, Try.ntmps43
    go_wp2_with fail
    generalize (w.alloc (.cells #[.int .i64 b, .slice sv m cv] 26)).alloc (.cells #[.int .i64 0, .slice none 0 0, .bool false] 63) = v2 at *
    refine C.mono ?_
    rintro e w3 ⟨rfl, hb3⟩
    obtain ⟨a0, a1, a2, a3, a4, a5⟩ := (X2.kept hb3 rfl).six
    have xlt := (X2.kept hb3 rfl).lt
    have S3 : Hid (Since w w3) := since_call S2.out hb3
    clear C hb3 X2 Y2 S2
    go_wp2_with fail
    refine bodyPost_ret (v := stepV 0 none 0 0 false) (by simp [results, Try.results43, go_sem, stepV, a0, a1, a2]) rfl ?_
    exact newStep_zero S3.out (by omega)
open Classical in
set_option maxRecDepth 100000 in
set_option maxHeartbeats 4000000 in
theorem specSOn_yes (sa : Option Addr) (n cap c : Nat) (f : Nat → Cel) (sv : Option Addr) (m cv x : Nat) (g : Nat → Int) (w : World) (hn : n ≤ maxLen) (hr : CRow w w.heap.size sa n f) (hc : ∀ i, i < n → (f i).c.size ≤ maxLen) (hv : Row w w.heap.size sv m g) (hk : CellsOk n f) (hm : m = (n + 1 + 31) / 32) (hR : Right ((n : Int) + 1) m g) (hc9 : c < 256) (hx : IsBits x (fun j => stepB f n (bitsOf g n) c j || startB f n j)) :
    Calls Try.prog 43 #[.slice sa n cap, .agg #[.int .i64 ((n : Int) + 1), .slice sv m cv], .int .i64 (c : Int)] w fun e w' => NewStep w ((n : Int) + 1) m (wordsN x) (stepB f n (bitsOf g n) c n) e w' := by
  have q1 := boxing w 26 ((n : Int) + 1) sv m cv
  have q2 := sboxing (w.alloc (.cells #[.int .i64 ((n : Int) + 1), .slice sv m cv] 26)) 0 none 0 0 false
  have S2 : Hid (Since w ((w.alloc (.cells #[.int .i64 ((n : Int) + 1), .slice sv m cv] 26)).alloc (.cells #[.int .i64 0, .slice none 0 0, .bool false] 63))) := since_call (since_call (since_refl _) q1.1) q2.1
  have hn60 := hk.2.1
  have C := l07Vec_any sa n cap f ((n : Int) + 1) sv m cv g _ hn ((hr.kept S2.out.below).up S2.out.size) hc (by omega) (row_since hv S2.out)
  rw [decide_eq_true (show CellsOk n f ∧ OfRow ((n : Int) + 1) m g n from ⟨hk, hR, rfl⟩)] at C
  have hsz : ∀ i, i < n → (f i).c.size ≤ 256 := okSize (fun i _ hi => right_size hi) hk
  have HST : Hid (∀ W, Since w W → Calls Try.prog 117 #[.slice sa n cap, .agg #[.int .i64 ((n : Int) + 1), .slice sv m cv], .int .i64 (c : Int)] W fun e w' => NewStep W ((n : Int) + 1) m (wordsN x) (stepB f n (bitsOf g n) c n) e w') := fun W hW =>
    (l07Step_any sa n cap c m f sv cv (bitsOf g n) W hk.1 hn60 ((hr.kept hW.below).up hW.size) hsz hc9 hm ⟨g, row_since hv hW, vecIs_right hm hR⟩).mono (fun _ _ h => stepBits_words h hx)
  have Y2 := q1.2.1.kept q2.1 rfl
  have X2 := q2.2.1
  rw [q1.2.2] at X2
  have hc0 : (0 : Int) ≤ (c : Int) := by omega
  have hc1 : (c : Int) ≤ 255 := by omega
  clear hn hr hc hm hv hk hR hx hsz q1 q2
  go_enter Try.func43, Try.ntmps43
  go_wp2_with fail
  generalize (w.alloc (.cells #[.int .i64 ((n : Int) + 1), .slice sv m cv] 26)).alloc (.cells #[.int .i64 0, .slice none 0 0, .bool false] 63) = v2 at *
  refine C.mono ?_
  rintro e w3 ⟨rfl, hb3⟩
  have X3 : Hid (SBox w3 (w.heap.size + 1) 0 none 0 0 false) := X2.kept hb3 rfl
  obtain ⟨y0, y1⟩ := (Y2.kept hb3 rfl).cells
  have ylt := (Y2.kept hb3 rfl).lt
  have S3 : Hid (Since w w3) := since_call S2.out hb3
  clear C hb3 X2 Y2 S2
  go_wp2_with (first | (go_at_call 116; refine (is_yes _ _ _ _ hc0 hc1).mono ?_; rintro e w9 ⟨rfl, hw9⟩; rw [hw9]; clear hw9 w9))
  refine (HST.out w3 S3.out).mono ?_
  rintro e w8 ⟨s3, c3, rfl, hb8, ho8⟩
  unfold stepV
  obtain ⟨a0, a1, a2, a3, a4, a5⟩ := (X3.out.kept hb8 rfl).six
  have xlt := (X3.out.kept hb8 rfl).lt
  have xlt7 := X3.out.lt
  have S8 : Hid (Since w w8) := since_call S3.out hb8
  have O8 : Hid (OwnS w8 w3.heap.size s3 m (wordsN x)) := ho8
  clear hb8 ho8
  go_wp2_with fail
  refine bodyPost_ret (v := stepV ((n : Int) + 1) s3 m c3 (stepB f n (bitsOf g n) c n)) (by simp [results, Try.results43, go_sem, stepV, a0, a1, a2]) rfl ?_
  refine ⟨_, _, rfl, (since_set (since_set (since_set S8.out (by show w.heap.size ≤ w.heap.size + 1; omega)) (by show w.heap.size ≤ w.heap.size + 1; omega)) (by show w.heap.size ≤ w.heap.size + 1; omega)).below, ?_⟩
  rcases O8.out with h | ⟨g5, h1, h2, h3⟩
  · exact Or.inl h
  · exact Or.inr ⟨g5, h1, by omega, ((h3.setOther _ _ (by show w.heap.size + 1 ≠ g5; omega)).setOther _ _ (by show w.heap.size + 1 ≠ g5; omega)).setOther _ _ (by show w.heap.size + 1 ≠ g5; omega)⟩
open Classical in
theorem end_StepOn (sa : Option Addr) (n cap : Nat) (f : Nat → Cel) (b1 : Int) (sa1 : Option Addr) (n1 ca1 : Nat) (f1 : Nat → Int) (en : Int) (w : World) (hn : n ≤ maxLen) (hr : CRow w w.heap.size sa n f) (hc : ∀ i, i < n → (f i).c.size ≤ maxLen) (hm1 : n1 ≤ maxLen) (hr1 : Row w w.heap.size sa1 n1 f1) (_he : (Lit.int .i64 en).wf = true) :
    Calls Try.prog 8 #[.slice sa n cap, .agg #[.int .i64 b1, .slice sa1 n1 ca1], .int .i64 en] w fun e w' => e = .returned (.bool true) ∧ Below w.heap.size w w' := by
  by_cases h : StepP n f b1 n1 f1 en
  · obtain ⟨hk, ⟨hR, rfl⟩, h2, h3⟩ := h
    obtain ⟨c, rfl⟩ := Int.eq_ofNat_of_zero_le h2
    have hn60 := hk.2.1
    have hm : n1 = (n + 1 + 31) / 32 := by have := hR.2.2.1; omega
    obtain ⟨x, hx⟩ : ∃ x, IsBits x (fun j => stepB f n (bitsOf f1 n) c j || startB f n j) := ⟨_, bits_valB (fun j hj => by rw [step_le f n _ c j (by omega), start_le f n j (by omega)]; rfl)⟩
    exact law_StepOn sa n cap f ((n : Int) + 1) sa1 n1 ca1 f1 (c : Int) ((n : Int) + 1) n1 (wordsN x) (stepB f n (bitsOf f1 n) c n) w hn hr hc hm1 hr1 (by omega)
      (fun _ _ _ W y k y1 k1 hy hy1 => specSOn_yes y n k c f y1 n1 k1 x f1 W hn hy hc hy1 hk hm hR (by omega) hx)
      (fun _ _ _ W y k y1 k1 hy hy1 => implSOn_yes y n k c f y1 n1 k1 x f1 W hn hy hc hy1 hk hm hR (by omega) hx)
  · exact law_StepOn sa n cap f b1 sa1 n1 ca1 f1 en 0 0 (fun _ => 0) false w hn hr hc hm1 hr1 (by omega)
      (fun _ _ hl W y k y1 k1 hy hy1 => specSOn_no y n k f b1 y1 n1 k1 f1 en W hn hy hc hl hy1 h)
      (fun _ _ hl W y k y1 k1 hy hy1 => implSOn_no y n k f b1 y1 n1 k1 f1 en W hn hy hc hl hy1 h)
end Go.Proofs.Ythnnenbpbkmbhaa
