/- What is proved here: the program's StepOn hands back where one stands behind a byte, in new memory, and whether it hit, or nothing; nothing that was there turns. -/
import Derived.Test.YtlgnplnmcdjbiaaGreatQOnceWToIsByteW
import Derived.Test.YtlgnplnmcdjbiaaGreatQImplMaskWToSkipExM
import Derived.Test.YtlgnplnmcdjbiaaGreatQSpecKRightWToIsW
import Derived.Deep.RegionWith
namespace Go.Proofs.YtlgnplnmcdjbiaaGreat
open Go.RowKit

/-- What is asked is right: right cells, a right vector of as many bits as there are places, and a byte. -/
def StepP (n : Nat) (f : Nat → Cel) (b : Int) (m : Nat) (g : Nat → Int) (en : Int) : Prop := CellsOk n f ∧ OfRow b m g n ∧ 0 ≤ en ∧ en ≤ 255
theorem newStep_zero {w W : World} {a : Nat} (hS : Since w W) (ha : w.heap.size ≤ a) : NewStep w 0 0 (fun _ => 0) false (.returned (stepV 0 none 0 0 false)) (((W.setCell ⟨a, 0, none⟩ (.int .i64 0)).setCell ⟨a, 1, none⟩ (.slice none 0 0)).setCell ⟨a, 2, none⟩ (.bool false)) :=
  ⟨_, _, rfl, (since_set (since_set (since_set hS ha) ha) ha).below, Or.inl rfl⟩
open Classical in
set_option maxRecDepth 100000 in
set_option maxHeartbeats 4000000 in
theorem implSOn_no (sa : Option Addr) (n cap : Nat) (f : Nat → Cel) (b : Int) (sv : Option Addr) (m cv : Nat) (g : Nat → Int) (en : Int) (w : World) (hn : n ≤ maxLen) (hr : CRow w w.heap.size sa n f) (hc : ∀ i, i < n → (f i).c.size ≤ maxLen) (hm : m ≤ 1048576) (hv : Row w w.heap.size sv m g) (h : ¬ StepP n f b m g en) :
    Calls Tryz.prog 5 #[.slice sa n cap, .agg #[.int .i64 b, .slice sv m cv], .int .i64 en] w fun e w' => NewStep w 0 0 (fun _ => 0) false e w' := by
  have q1 := boxing w 26 b sv m cv
  have q2 := sboxing (w.alloc (.cells #[.int .i64 b, .slice sv m cv] 26)) 0 none 0 0 false
  have S2 : Hid (Since w ((w.alloc (.cells #[.int .i64 b, .slice sv m cv] 26)).alloc (.cells #[.int .i64 0, .slice none 0 0, .bool false] 30))) := since_call (since_call (since_refl _) q1.1) q2.1
  have hr2 := (hr.kept S2.out.below).up S2.out.size
  have RV : Hid (Row w w.heap.size sv m g) := hv
  have Y2 := q1.2.1.kept q2.1 rfl
  have X2 := q2.2.1
  rw [q1.2.2] at X2
  clear q1 q2
  by_cases hk : CellsOk n f
  · have C := walkOf_yes sa n cap f _ hn hr2 hc hk
    have hn60 := hk.2.1
    by_cases hof : OfRow b m g n
    · have hen : ¬ (0 ≤ en ∧ en ≤ 255) := fun h9 => h ⟨hk, hof, h9.1, h9.2⟩
      have HOF : Hid (∀ W, Since w W → Calls Tryz.prog 30 #[.agg #[.int .i64 b, .slice sv m cv], .int .i64 (n : Int)] W fun e w' => e = .returned (.bool true) ∧ Below W.heap.size W w') := fun W hW => by
        have h9 := isOfRow_any b sv m cv n g W hn60 hm (row_since RV.out hW)
        rw [decide_eq_true hof] at h9
        exact h9
      have HEN : Hid (¬ (0 ≤ en ∧ en ≤ 255)) := hen
      clear hn hr hc h hk hof hr2 hv hen
      go_enter Tryz.func5, Tryz.ntmps5
      go_wp2_with fail
      generalize (w.alloc (.cells #[.int .i64 b, .slice sv m cv] 26)).alloc (.cells #[.int .i64 0, .slice none 0 0, .bool false] 30) = v2 at *
      refine C.mono ?_
      rintro e w3 ⟨q, rfl, hb3, hw3⟩
      have S3 : Hid (Since w w3) := since_call S2.out hb3
      obtain ⟨y0, y1⟩ := (Y2.kept hb3 rfl).cells
      have X3 := X2.kept hb3 rfl
      clear C hb3 hw3 X2 Y2 S2
      go_wp2_with (first | (go_at_call 30; refine (HOF.out _ S3.out).mono ?_; rintro e w4 ⟨rfl, hb4⟩; have S4 : Hid (Since w w4) := since_call S3.out hb4; obtain ⟨a0, a1, a2, a3, a4, a5⟩ := (X3.kept hb4 rfl).six; have xlt := (X3.kept hb4 rfl).lt; clear hb4) | (go_at_call 31; refine (isByte_no _ _ HEN.out).mono ?_; rintro e w9 ⟨rfl, hw9⟩; rw [hw9]; clear hw9 w9))
      refine bodyPost_ret (v := stepV 0 none 0 0 false) (by simp [results, Tryz.results5, go_sem, stepV, a0, a1, a2]) rfl ?_
      exact newStep_zero S4.out (by omega)
    · have HOF : Hid (∀ W, Since w W → Calls Tryz.prog 30 #[.agg #[.int .i64 b, .slice sv m cv], .int .i64 (n : Int)] W fun e w' => e = .returned (.bool false) ∧ Below W.heap.size W w') := fun W hW => by
        have h9 := isOfRow_any b sv m cv n g W hn60 hm (row_since RV.out hW)
        rw [decide_eq_false hof] at h9
        exact h9
      clear hn hr hc h hk hof hr2 hv
      go_enter Tryz.func5, Tryz.ntmps5
      go_wp2_with fail
      generalize (w.alloc (.cells #[.int .i64 b, .slice sv m cv] 26)).alloc (.cells #[.int .i64 0, .slice none 0 0, .bool false] 30) = v2 at *
      refine C.mono ?_
      rintro e w3 ⟨q, rfl, hb3, hw3⟩
      have S3 : Hid (Since w w3) := since_call S2.out hb3
      obtain ⟨y0, y1⟩ := (Y2.kept hb3 rfl).cells
      have X3 := X2.kept hb3 rfl
      clear C hb3 hw3 X2 Y2 S2
      go_wp2_with (first | (go_at_call 30; refine (HOF.out _ S3.out).mono ?_; rintro e w4 ⟨rfl, hb4⟩; have S4 : Hid (Since w w4) := since_call S3.out hb4; obtain ⟨a0, a1, a2, a3, a4, a5⟩ := (X3.kept hb4 rfl).six; have xlt := (X3.kept hb4 rfl).lt; clear hb4))
      refine bodyPost_ret (v := stepV 0 none 0 0 false) (by simp [results, Tryz.results5, go_sem, stepV, a0, a1, a2]) rfl ?_
      exact newStep_zero S4.out (by omega)
  · have C := walkOf_no sa n cap f _ hn hr2 hc hk
    clear hn hr hc h hk hr2 hv RV
    go_enter Tryz.func5, Tryz.ntmps5
    go_wp2_with fail
    generalize (w.alloc (.cells #[.int .i64 b, .slice sv m cv] 26)).alloc (.cells #[.int .i64 0, .slice none 0 0, .bool false] 30) = v2 at *
    refine C.mono ?_
    rintro e w3 ⟨rfl, hb3⟩
    have S3 : Hid (Since w w3) := since_call S2.out hb3
    obtain ⟨a0, a1, a2, a3, a4, a5⟩ := (X2.kept hb3 rfl).six
    have xlt := (X2.kept hb3 rfl).lt
    clear C hb3 X2 Y2 S2
    go_wp2_with fail
    refine bodyPost_ret (v := stepV 0 none 0 0 false) (by simp [results, Tryz.results5, go_sem, stepV, a0, a1, a2]) rfl ?_
    exact newStep_zero S3.out (by omega)
theorem SBox.onlyM {W W' : World} {lo hi p : Nat} {b : Int} {sa : Option Addr} {n cap : Nat} {t : Bool} (h : SBox W p b sa n cap t) (ho : OnlyM W W' lo hi) (hp : p < lo ∨ hi ≤ p) : SBox W' p b sa n cap t := by
  unfold SBox
  rw [ho.block p h.lt hp]
  exact h
theorem WalkAt.later {W W' : World} {lo q : Nat} {sa : Option Addr} {n cap : Nat} {f : Nat → Cel} {P : Nat → Bool} (h : WalkAt W lo q sa n cap f P) (hb : Below W.heap.size W W') : WalkAt W' lo q sa n cap f P := by
  obtain ⟨r, b, be, a, sk, l, fi, la, bl, st, fin, ⟨h1, h2, h3, h4, h5, h6, h7, h8⟩, h9, h10⟩ := h
  exact ⟨r, b, be, a, sk, l, fi, la, bl, st, fin, ⟨h1.kept hb h1.lt, h2.kept hb h2.lt, h3.kept hb h3.cells.2.2, h4, h5, h6, h7, h8⟩, h9, h10⟩
theorem WalkAt.place {W : World} {lo q : Nat} {sa : Option Addr} {n cap : Nat} {f : Nat → Cel} {P Q : Nat → Bool} {y : Nat} (h : WalkAt W lo q sa n cap f P) (hy : IsBits y Q) : WalkAt (W.setCell ⟨q, 2, none⟩ (.int .u64 (y : Int))) lo q sa n cap f Q := by
  obtain ⟨r, b, be, a, sk, l, fi, la, bl, st, fin, ⟨h1, h2, h3, h4, h5, h6, h7, h8⟩, h9, h10⟩ := h
  exact ⟨r, b, be, y, sk, l, fi, la, bl, st, fin, ⟨h1.at y, h2.setOther _ _ (by show q ≠ r; omega), h3.setOther _ _ (by show q ≠ b; omega), h4, h5, h6, h7, h8⟩, h9, hy⟩
theorem WalkAt.slot {W : World} {lo q : Nat} {sa : Option Addr} {n cap : Nat} {f : Nat → Cel} {P : Nat → Bool} (h : WalkAt W lo q sa n cap f P) : (∃ a : Nat, W.cell? ⟨q, 2, none⟩ = some (.int .u64 (a : Int))) ∧ W.frozen? ⟨q, 2, none⟩ = false ∧ q < W.heap.size ∧ lo < q := by
  obtain ⟨r, b, be, a, sk, l, fi, la, bl, st, fin, ⟨h1, h2, h3, h4, h5, h6, h7, h8⟩, h9, h10⟩ := h
  exact ⟨⟨a, h1.c2⟩, h1.f2, h1.lt, by omega⟩
theorem since_only {w W W' : World} {lo hi : Nat} (h : Since w W) (ho : OnlyM W W' lo hi) (hl : w.heap.size ≤ lo) : Since w W' := ⟨h.below.trans (ho.below hl h.below.size)⟩
open Classical in
set_option maxRecDepth 100000 in
set_option maxHeartbeats 4000000 in
theorem implSOn_yes (sa : Option Addr) (n cap c : Nat) (f : Nat → Cel) (sv : Option Addr) (m cv x : Nat) (g : Nat → Int) (w : World) (hn : n ≤ maxLen) (hr : CRow w w.heap.size sa n f) (hc : ∀ i, i < n → (f i).c.size ≤ maxLen) (hv : Row w w.heap.size sv m g) (hk : CellsOk n f) (hm : m = (n + 1 + 31) / 32) (hR : Right ((n : Int) + 1) m g) (hc9 : c < 256) (hx : IsBits x (fun j => stepB f n (bitsOf g n) c j || startB f n j)) :
    Calls Tryz.prog 5 #[.slice sa n cap, .agg #[.int .i64 ((n : Int) + 1), .slice sv m cv], .int .i64 (c : Int)] w fun e w' => NewStep w ((n : Int) + 1) m (wordsN x) (stepB f n (bitsOf g n) c n) e w' := by
  have q1 := boxing w 26 ((n : Int) + 1) sv m cv
  have q2 := sboxing (w.alloc (.cells #[.int .i64 ((n : Int) + 1), .slice sv m cv] 26)) 0 none 0 0 false
  have S2 : Hid (Since w ((w.alloc (.cells #[.int .i64 ((n : Int) + 1), .slice sv m cv] 26)).alloc (.cells #[.int .i64 0, .slice none 0 0, .bool false] 30))) := since_call (since_call (since_refl _) q1.1) q2.1
  have hr2 := (hr.kept S2.out.below).up S2.out.size
  have RV : Hid (Row w w.heap.size sv m g) := hv
  have RC : Hid (CRow w w.heap.size sa n f) := hr
  have Y2 := q1.2.1.kept q2.1 rfl
  have X2 := q2.2.1
  have hz2 := q2.2.2
  rw [q1.2.2] at X2 hz2
  clear q1 q2
  have C := walkOf_yes sa n cap f _ hn hr2 hc hk
  have hn60 := hk.2.1
  have HSZ : Hid (∀ i, i < n → (f i).c.size ≤ 256) := okSize (fun i _ hi => right_size hi) hk
  have HX : Hid (IsBits x (fun j => stepB f n (bitsOf g n) c j || startB f n j)) := hx
  have HM : Hid (m = (n + 1 + 31) / 32) := hm
  have HOF : Hid (∀ W, Since w W → Calls Tryz.prog 30 #[.agg #[.int .i64 ((n : Int) + 1), .slice sv m cv], .int .i64 (n : Int)] W fun e w' => e = .returned (.bool true) ∧ Below W.heap.size W w') := fun W hW => by
    have h9 := isOfRow_any ((n : Int) + 1) sv m cv n g W hn60 (by omega) (row_since RV.out hW)
    rw [decide_eq_true (show OfRow ((n : Int) + 1) m g n from ⟨hR, rfl⟩)] at h9
    exact h9
  have HPL : Hid (∀ W, Since w W → Calls Tryz.prog 32 #[.agg #[.int .i64 ((n : Int) + 1), .slice sv m cv]] W fun e w' => ∃ y : Nat, e = .returned (.int .u64 (y : Int)) ∧ IsBits y (bitsOf g n) ∧ Below W.heap.size W w') := fun W hW =>
    placesOf_any ((n : Int) + 1) sv m cv g (bitsOf g n) W (by omega) (row_since RV.out hW) (vecIs_right hm hR) (fun j hj => bitsOf_le g n j (by omega))
  have hwc : IntKind.u8.wrap (c : Int) = (c : Int) := by rw [IntKind.wrap_u8]; omega
  have hc0 : (0 : Int) ≤ (c : Int) := by omega
  have hc1 : (c : Int) ≤ 255 := by omega
  clear hn hr hc hk hr2 hv hx hm hR
  go_enter Tryz.func5, Tryz.ntmps5
  go_wp2_with fail
  generalize (w.alloc (.cells #[.int .i64 ((n : Int) + 1), .slice sv m cv] 26)).alloc (.cells #[.int .i64 0, .slice none 0 0, .bool false] 30) = v2 at *
  have HZ2 : Hid (v2.heap.size = w.heap.size + 1 + 1) := hz2
  clear hz2
  refine C.mono ?_
  rintro e w3 ⟨q, rfl, hb3, hw3⟩
  have S3 : Hid (Since w w3) := since_call S2.out hb3
  have W3 : Hid (WalkAt w3 v2.heap.size q sa n cap f (startB f n)) := hw3
  have Y3 : Hid (Boxed w3 w.heap.size 26 ((n : Int) + 1) sv m cv) := Y2.kept hb3 rfl
  have X3 : Hid (SBox w3 (w.heap.size + 1) 0 none 0 0 false) := X2.kept hb3 rfl
  obtain ⟨y0, y1⟩ := Y3.out.cells
  clear C hb3 hw3 X2 Y2 S2
  go_wp2_with (first | (go_at_call 30; refine (HOF.out _ S3.out).mono ?_; rintro e w4 ⟨rfl, hb4⟩; have S4 : Hid (Since w w4) := since_call S3.out hb4; have W4 : Hid (WalkAt w4 v2.heap.size q sa n cap f (startB f n)) := W3.out.later hb4; have X4 : Hid (SBox w4 (w.heap.size + 1) 0 none 0 0 false) := X3.out.kept hb4 rfl; obtain ⟨z0, z1⟩ := (Y3.out.kept hb4 rfl).cells; clear hb4) | (go_at_call 31; refine (isByte_yes _ _ hc0 hc1).mono ?_; rintro e w9 ⟨rfl, hw9⟩; rw [hw9]; clear hw9 w9))
  refine (HPL.out w4 S4.out).mono ?_
  rintro e w5 ⟨y, rfl, hy, hb5⟩
  have S5 : Hid (Since w w5) := since_call S4.out hb5
  have W5 : Hid (WalkAt w5 v2.heap.size q sa n cap f (startB f n)) := W4.out.later hb5
  have X5 : Hid (SBox w5 (w.heap.size + 1) 0 none 0 0 false) := X4.out.kept hb5 rfl
  have HY : Hid (IsBits y (bitsOf g n)) := hy
  obtain ⟨⟨a, s2⟩, sf, sl, slo⟩ := W5.out.slot
  clear hb5 hy y0 y1 z0 z1 S4 S3 W4 W3 X4 X3 Y3
  go_wp2_with fail
  have W6 : Hid (WalkAt (w5.setCell ⟨q, 2, none⟩ (.int .u64 (y : Int))) v2.heap.size q sa n cap f (bitsOf g n)) := W5.out.place HY.out
  have S6 : Hid (Since w (w5.setCell ⟨q, 2, none⟩ (.int .u64 (y : Int)))) := since_set S5.out (by show w.heap.size ≤ q; have := HZ2.out; omega)
  have X6 : Hid (SBox (w5.setCell ⟨q, 2, none⟩ (.int .u64 (y : Int))) (w.heap.size + 1) 0 none 0 0 false) := X5.out.setOther _ _ (by show q ≠ w.heap.size + 1; have := HZ2.out; omega)
  generalize w5.setCell ⟨q, 2, none⟩ (.int .u64 (y : Int)) = w6 at *
  clear s2 sf sl S5 W5 X5
  refine (step_any q sa n cap v2.heap.size c f (bitsOf g n) w6 hn60 hc9 HSZ.out ((RC.out.kept S6.out.below).up (by have := HZ2.out; omega)) W6.out (bitsOf_le g n)).mono ?_
  rintro e w7 ⟨rfl, hw7, ho7⟩
  have hlo : w.heap.size ≤ v2.heap.size := by have := HZ2.out; omega
  have S7 : Hid (Since w w7) := since_only S6.out ho7 hlo
  have W7 : Hid (WalkAt w7 v2.heap.size q sa n cap f (fun j => stepB f n (bitsOf g n) c j || startB f n j)) := hw7
  have X7 : Hid (SBox w7 (w.heap.size + 1) 0 none 0 0 false) := X6.out.onlyM ho7 (Or.inl (by have := HZ2.out; omega))
  clear hw7 ho7 S6 W6 X6
  go_wp2_with fail
  refine (vecAt_any q sa n cap m v2.heap.size x f _ w7 hn60 HM.out W7.out HX.out).mono ?_
  rintro e w8 ⟨s3, c3, rfl, hb8, ho8⟩
  unfold vecV
  obtain ⟨a0, a1, a2, a3, a4, a5⟩ := (X7.out.kept hb8 rfl).six
  have xlt := (X7.out.kept hb8 rfl).lt
  have xlt7 := X7.out.lt
  have S8 : Hid (Since w w8) := since_call S7.out hb8
  have O8 : Hid (OwnS w8 w7.heap.size s3 m (wordsN x)) := ho8
  clear hb8 ho8
  go_wp2_with fail
  refine bodyPost_ret (v := stepV ((n : Int) + 1) s3 m c3 (stepB f n (bitsOf g n) c n)) (by simp [results, Tryz.results5, go_sem, stepV, a0, a1, a2]) rfl ?_
  refine ⟨_, _, rfl, (since_set (since_set (since_set S8.out (by show w.heap.size ≤ w.heap.size + 1; omega)) (by show w.heap.size ≤ w.heap.size + 1; omega)) (by show w.heap.size ≤ w.heap.size + 1; omega)).below, ?_⟩
  rcases O8.out with h | ⟨g5, h1, h2, h3⟩
  · exact Or.inl h
  · exact Or.inr ⟨g5, h1, by omega, ((h3.setOther _ _ (by show w.heap.size + 1 ≠ g5; omega)).setOther _ _ (by show w.heap.size + 1 ≠ g5; omega)).setOther _ _ (by show w.heap.size + 1 ≠ g5; omega)⟩
end Go.Proofs.YtlgnplnmcdjbiaaGreat
