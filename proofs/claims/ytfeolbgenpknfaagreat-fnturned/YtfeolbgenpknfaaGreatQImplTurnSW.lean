/- What is proved here: the program's TurnStep hands back the turned bits behind a byte, in new memory, and whether it hit, or nothing; nothing that was there turns. -/
import Derived.Test.YtfeolbgenpknfaaGreatQImplTurnWToIntsNeW
namespace Go.Proofs.YtfeolbgenpknfaaGreat
open Go.RowKit

/-- What is asked is right: plain cells, a right vector of as many bits, and a byte. -/
def TStepP (n : Nat) (f : Nat → Cel) (b : Int) (m : Nat) (g : Nat → Int) (en : Int) : Prop := PlainP n f ∧ (Right b m g ∧ b = (n : Int)) ∧ 0 ≤ en ∧ en ≤ 255
theorem newStep_none {w W : World} {a : Nat} (hS : Since w W) (ha : w.heap.size ≤ a) : NewStep w 0 0 (fun _ => 0) false (.returned (stepV 0 none 0 0 false)) (((W.setCell ⟨a, 0, none⟩ (.int .i64 0)).setCell ⟨a, 1, none⟩ (.slice none 0 0)).setCell ⟨a, 2, none⟩ (.bool false)) :=
  ⟨_, _, rfl, (since_set (since_set (since_set hS ha) ha) ha).below, Or.inl rfl⟩
theorem boxed_grownT {W W' : World} {b p : Nat} {t : TypeId} {x : Int} {sa : Option Addr} {n cap : Nat} (h : Boxed W p t x sa n cap) (hg : W.grownBy W' (some b)) (hne : p ≠ b) : Boxed W' p t x sa n cap := by
  unfold Boxed
  rw [hg.block p h.lt (fun e => hne (by injection e))]
  exact h
theorem sbox_grownT {W W' : World} {b p : Nat} {x : Int} {sa : Option Addr} {n cap : Nat} {t : Bool} (h : SBox W p x sa n cap t) (hg : W.grownBy W' (some b)) (hne : p ≠ b) : SBox W' p x sa n cap t := by
  unfold SBox
  rw [hg.block p h.lt (fun e => hne (by injection e))]
  exact h
open Classical in
set_option maxRecDepth 100000 in
set_option maxHeartbeats 4000000 in
theorem implTurnStep_no (sa : Option Addr) (n cap : Nat) (f : Nat → Cel) (b : Int) (sv : Option Addr) (m cv : Nat) (g : Nat → Int) (en : Int) (w : World) (hn : n ≤ maxLen) (hr : CRow w w.heap.size sa n f) (hc : ∀ i, i < n → (f i).c.size ≤ maxLen) (hm : m ≤ 1048576) (hv : Row w w.heap.size sv m g) (h : ¬ TStepP n f b m g en) :
    Calls Tryz.prog 17 #[.slice sa n cap, .agg #[.int .i64 b, .slice sv m cv], .int .i64 en] w fun e w' => NewStep w 0 0 (fun _ => 0) false e w' := by
  have q1 := boxing w 29 b sv m cv
  have q2 := sboxing (w.alloc (.cells #[.int .i64 b, .slice sv m cv] 29)) 0 none 0 0 false
  have S2 : Hid (Since w ((w.alloc (.cells #[.int .i64 b, .slice sv m cv] 29)).alloc (.cells #[.int .i64 0, .slice none 0 0, .bool false] 39))) := since_call (since_call (since_refl _) q1.1) q2.1
  have hr2 := (hr.kept S2.out.below).up S2.out.size
  have RV : Hid (Row w w.heap.size sv m g) := hv
  have Y2 := q1.2.1.kept q2.1 rfl
  have X2 := q2.2.1
  rw [q1.2.2] at X2
  clear q1 q2
  by_cases hk : PlainP n f
  · have C := turnedRowOf_yes sa n cap f _ hn hr2 hc hk
    have hn60 := hk.1.2.1
    by_cases hof : Right b m g ∧ b = (n : Int)
    · have hen : ¬ (0 ≤ en ∧ en ≤ 255) := fun h9 => h ⟨hk, hof, h9.1, h9.2⟩
      have HOF : Hid (∀ (q : Nat) (W : World), Since w W → TReady W q sa n cap f → Calls Tryz.prog 46 #[.pointer (some ⟨q, 0, none⟩), .agg #[.int .i64 b, .slice sv m cv]] W fun e w' => e = .returned (.bool true) ∧ Below W.heap.size W w') := fun q W hW hq => by
        have h9 := isTurned_any q sa n cap f b sv m cv g W hm (row_since RV.out hW) hq
        rw [decide_eq_true hof] at h9
        exact h9
      have HEN : Hid (¬ (0 ≤ en ∧ en ≤ 255)) := hen
      clear hn hr hc h hk hof hr2 hv hen
      go_enter Tryz.func17, Tryz.ntmps17
      go_wp2_with fail
      generalize (w.alloc (.cells #[.int .i64 b, .slice sv m cv] 29)).alloc (.cells #[.int .i64 0, .slice none 0 0, .bool false] 39) = v2 at *
      refine C.mono ?_
      rintro e w3 ⟨q, rfl, _, hb3, hw3⟩
      have S3 : Hid (Since w w3) := since_call S2.out hb3
      have W3 : Hid (TReady w3 q sa n cap f) := Or.inl hw3
      obtain ⟨y0, y1⟩ := (Y2.kept hb3 rfl).cells
      have X3 := X2.kept hb3 rfl
      clear C hb3 hw3 X2 Y2 S2
      go_wp2_with (first | (go_at_call 46; refine (HOF.out q _ S3.out W3.out).mono ?_; rintro e w4 ⟨rfl, hb4⟩; have S4 : Hid (Since w w4) := since_call S3.out hb4; obtain ⟨a0, a1, a2, a3, a4, a5⟩ := (X3.kept hb4 rfl).six; have xlt := (X3.kept hb4 rfl).lt; clear hb4) | (go_at_call 47; refine (isByte_no _ _ HEN.out).mono ?_; rintro e w9 ⟨rfl, hw9⟩; rw [hw9]; clear hw9 w9))
      refine bodyPost_ret (v := stepV 0 none 0 0 false) (by simp [results, Tryz.results17, go_sem, stepV, a0, a1, a2]) rfl ?_
      exact newStep_none S4.out (by omega)
    · have HOF : Hid (∀ (q : Nat) (W : World), Since w W → TReady W q sa n cap f → Calls Tryz.prog 46 #[.pointer (some ⟨q, 0, none⟩), .agg #[.int .i64 b, .slice sv m cv]] W fun e w' => e = .returned (.bool false) ∧ Below W.heap.size W w') := fun q W hW hq => by
        have h9 := isTurned_any q sa n cap f b sv m cv g W hm (row_since RV.out hW) hq
        rw [decide_eq_false hof] at h9
        exact h9
      clear hn hr hc h hk hof hr2 hv
      go_enter Tryz.func17, Tryz.ntmps17
      go_wp2_with fail
      generalize (w.alloc (.cells #[.int .i64 b, .slice sv m cv] 29)).alloc (.cells #[.int .i64 0, .slice none 0 0, .bool false] 39) = v2 at *
      refine C.mono ?_
      rintro e w3 ⟨q, rfl, _, hb3, hw3⟩
      have S3 : Hid (Since w w3) := since_call S2.out hb3
      have W3 : Hid (TReady w3 q sa n cap f) := Or.inl hw3
      obtain ⟨y0, y1⟩ := (Y2.kept hb3 rfl).cells
      have X3 := X2.kept hb3 rfl
      clear C hb3 hw3 X2 Y2 S2
      go_wp2_with (first | (go_at_call 46; refine (HOF.out q _ S3.out W3.out).mono ?_; rintro e w4 ⟨rfl, hb4⟩; have S4 : Hid (Since w w4) := since_call S3.out hb4; obtain ⟨a0, a1, a2, a3, a4, a5⟩ := (X3.kept hb4 rfl).six; have xlt := (X3.kept hb4 rfl).lt; clear hb4))
      refine bodyPost_ret (v := stepV 0 none 0 0 false) (by simp [results, Tryz.results17, go_sem, stepV, a0, a1, a2]) rfl ?_
      exact newStep_none S4.out (by omega)
  · have C := turnedRowOf_no sa n cap f _ hn hr2 hc hk
    clear hn hr hc h hk hr2 hv RV
    go_enter Tryz.func17, Tryz.ntmps17
    go_wp2_with fail
    generalize (w.alloc (.cells #[.int .i64 b, .slice sv m cv] 29)).alloc (.cells #[.int .i64 0, .slice none 0 0, .bool false] 39) = v2 at *
    refine C.mono ?_
    rintro e w3 ⟨rfl, hb3⟩
    have S3 : Hid (Since w w3) := since_call S2.out hb3
    obtain ⟨a0, a1, a2, a3, a4, a5⟩ := (X2.kept hb3 rfl).six
    have xlt := (X2.kept hb3 rfl).lt
    clear C hb3 X2 Y2 S2
    go_wp2_with fail
    refine bodyPost_ret (v := stepV 0 none 0 0 false) (by simp [results, Tryz.results17, go_sem, stepV, a0, a1, a2]) rfl ?_
    exact newStep_none S3.out (by omega)
open Classical in
set_option maxRecDepth 100000 in
set_option maxHeartbeats 4000000 in
theorem implTurnStep_yes (sa : Option Addr) (n cap c : Nat) (f : Nat → Cel) (sv : Option Addr) (m cv x : Nat) (g : Nat → Int) (T : Nat → Bool) (w : World) (hn : n ≤ maxLen) (hr : CRow w w.heap.size sa n f) (hc : ∀ i, i < n → (f i).c.size ≤ maxLen) (hv : Row w w.heap.size sv m g) (hk : PlainP n f) (hm : m = (n + 31) / 32) (hR : Right (n : Int) m g) (hT : VecIs g T m) (hTn : ∀ j, n ≤ j → T j = false) (hc9 : c < 256) (hx : IsBits x (turnB f n T c)) :
    Calls Tryz.prog 17 #[.slice sa n cap, .agg #[.int .i64 (n : Int), .slice sv m cv], .int .i64 (c : Int)] w fun e w' => NewStep w (n : Int) m (wordsN x) (!turnB f n T c (n - 1)) e w' := by
  have q1 := boxing w 29 (n : Int) sv m cv
  have q2 := sboxing (w.alloc (.cells #[.int .i64 (n : Int), .slice sv m cv] 29)) 0 none 0 0 false
  have S2 : Hid (Since w ((w.alloc (.cells #[.int .i64 (n : Int), .slice sv m cv] 29)).alloc (.cells #[.int .i64 0, .slice none 0 0, .bool false] 39))) := since_call (since_call (since_refl _) q1.1) q2.1
  have hr2 := (hr.kept S2.out.below).up S2.out.size
  have RV : Hid (Row w w.heap.size sv m g) := hv
  have RC : Hid (CRow w w.heap.size sa n f) := hr
  have Y2 := q1.2.1.kept q2.1 rfl
  have X2 := q2.2.1
  have hz2 := q2.2.2
  rw [q1.2.2] at X2 hz2
  clear q1 q2
  have C := turnedRowOf_yes sa n cap f _ hn hr2 hc hk
  have hn1 := hk.1.1
  have hn60 := hk.1.2.1
  have HSZ : Hid (∀ i, i < n → (f i).c.size ≤ 256) := plain_small hk
  have HX : Hid (IsBits x (turnB f n T c)) := hx
  have HTN : Hid (∀ j, n ≤ j → T j = false) := hTn
  have HM : Hid (m = (n + 31) / 32) := hm
  have hm5 : m ≤ 1048576 := by omega
  have hm2 : m ≤ 2 := by omega
  have HOF : Hid (∀ (q : Nat) (W : World), Since w W → TReady W q sa n cap f → Calls Tryz.prog 46 #[.pointer (some ⟨q, 0, none⟩), .agg #[.int .i64 (n : Int), .slice sv m cv]] W fun e w' => e = .returned (.bool true) ∧ Below W.heap.size W w') := fun q W hW hq => by
    have h9 := isTurned_any q sa n cap f (n : Int) sv m cv g W hm5 (row_since RV.out hW) hq
    rw [decide_eq_true (show Right (n : Int) m g ∧ (n : Int) = (n : Int) from ⟨hR, rfl⟩)] at h9
    exact h9
  have HPL : Hid (∀ W, Since w W → Calls Tryz.prog 49 #[.agg #[.int .i64 (n : Int), .slice sv m cv]] W fun e w' => ∃ y : Nat, e = .returned (.int .u64 (y : Int)) ∧ IsBits y T ∧ Below W.heap.size W w') := fun W hW =>
    placesOf_any (n : Int) sv m cv g T W hm2 (row_since RV.out hW) hT (fun j hj => hTn j (by omega))
  have hwc : IntKind.u8.wrap (c : Int) = (c : Int) := by rw [IntKind.wrap_u8]; omega
  have hc0 : (0 : Int) ≤ (c : Int) := by omega
  have hc1 : (c : Int) ≤ 255 := by omega
  obtain ⟨hit, hhit⟩ : ∃ hit, (!turnB f n T c (n - 1)) = hit := ⟨_, rfl⟩
  rw [hhit]
  have HHIT : Hid ((!turnB f n T c (n - 1)) = hit) := hhit
  clear hn hr hc hk hr2 hv hx hm hR hT hTn hm2 hm5 hhit
  go_enter Tryz.func17, Tryz.ntmps17
  go_wp2_with fail
  generalize (w.alloc (.cells #[.int .i64 (n : Int), .slice sv m cv] 29)).alloc (.cells #[.int .i64 0, .slice none 0 0, .bool false] 39) = v2 at *
  have HZ2 : Hid (v2.heap.size = w.heap.size + 1 + 1) := hz2
  clear hz2
  refine C.mono ?_
  rintro e w3 ⟨q, rfl, hql, hb3, hw3⟩
  have HQ : Hid (w.heap.size + 1 < q) := by have := HZ2.out; show w.heap.size + 1 < q; omega
  have S3 : Hid (Since w w3) := since_call S2.out hb3
  have W3 : Hid (TReady w3 q sa n cap f) := Or.inl hw3
  have Y3 : Hid (Boxed w3 w.heap.size 29 (n : Int) sv m cv) := Y2.kept hb3 rfl
  have X3 : Hid (SBox w3 (w.heap.size + 1) 0 none 0 0 false) := X2.kept hb3 rfl
  obtain ⟨y0, y1⟩ := Y3.out.cells
  clear C hb3 hw3 X2 Y2 S2 hql
  go_wp2_with (first | (go_at_call 46; refine (HOF.out q _ S3.out W3.out).mono ?_; rintro e w4 ⟨rfl, hb4⟩; have S4 : Hid (Since w w4) := since_call S3.out hb4; have W4 : Hid (TReady w4 q sa n cap f) := W3.out.kept hb4 W3.out.cells.2.2; have X4 : Hid (SBox w4 (w.heap.size + 1) 0 none 0 0 false) := X3.out.kept hb4 rfl; obtain ⟨z0, z1⟩ := (Y3.out.kept hb4 rfl).cells; clear hb4) | (go_at_call 47; refine (isByte_yes _ _ hc0 hc1).mono ?_; rintro e w9 ⟨rfl, hw9⟩; rw [hw9]; clear hw9 w9))
  refine (HPL.out w4 S4.out).mono ?_
  rintro e w5 ⟨y, rfl, hy, hb5⟩
  have S5 : Hid (Since w w5) := since_call S4.out hb5
  have W5 : Hid (TReady w5 q sa n cap f) := W4.out.kept hb5 W4.out.cells.2.2
  have X5 : Hid (SBox w5 (w.heap.size + 1) 0 none 0 0 false) := X4.out.kept hb5 rfl
  have HY : Hid (IsBits y T) := hy
  clear hb5 hy y0 y1 z0 z1 S4 S3 W4 W3 X4 X3 Y3
  go_wp2_with fail
  refine (turnStep_any q sa n cap y c f T w5 hn60 hc9 HSZ.out ((RC.out.kept S5.out.below).up (by have := HQ.out; omega)) W5.out HY.out HTN.out).mono ?_
  rintro e w7 ⟨z, rfl, hz, hw7, hg7⟩
  obtain rfl := HX.out.uniq hz
  have S7 : Hid (Since w w7) := ⟨grown_belowT S5.out.below hg7 (by have := HQ.out; omega)⟩
  have W7 : Hid (TReady w7 q sa n cap f) := hw7
  have X7 : Hid (SBox w7 (w.heap.size + 1) 0 none 0 0 false) := sbox_grownT X5.out hg7 (by have := HQ.out; omega)
  clear hw7 hg7 hz S5 W5 X5
  go_wp2_with fail
  refine (turnVec_any q sa n cap x m f w7 HX.out.lt hn1 hn60 HM.out W7.out).mono ?_
  rintro e w8 ⟨s3, c3, rfl, hb8, ho8⟩
  unfold vecV
  have S8 : Hid (Since w w8) := since_call S7.out hb8
  have O8 : Hid (OwnS w8 w7.heap.size s3 m (wordsN x)) := ho8
  have CK := turnKind_any q sa n cap x f (turnB f n T c) w8 hn1 hn60 (W7.out.kept hb8 W7.out.cells.2.2) HX.out (turn_le f n T c)
  obtain ⟨a0, a1, a2, a3, a4, a5⟩ := (X7.out.kept hb8 rfl).six
  have xlt := (X7.out.kept hb8 rfl).lt
  have xlt7 := X7.out.lt
  clear hb8 ho8
  go_wp2_with fail
  refine CK.mono ?_
  rintro e w9 ⟨r, rfl, _, hrh, _, hw9⟩
  rw [hw9]
  clear CK hw9 w9
  have hrb : ((r : Int) == 2) = hit := by
    rw [← HHIT.out]
    cases h9 : turnB f n T c (n - 1) with
    | false => have := hrh.2 h9; subst this; rfl
    | true =>
      have hne : ¬ r = 2 := fun h => by rw [hrh.1 h] at h9; cases h9
      simp
      omega
  clear hrh
  go_wp2_with fail
  refine bodyPost_ret (v := stepV (n : Int) s3 m c3 hit) (by simp [results, Tryz.results17, go_sem, stepV, a0, a1, a2]) rfl ?_
  refine ⟨_, _, rfl, (since_set (since_set (since_set S8.out (by show w.heap.size ≤ w.heap.size + 1; omega)) (by show w.heap.size ≤ w.heap.size + 1; omega)) (by show w.heap.size ≤ w.heap.size + 1; omega)).below, ?_⟩
  rcases O8.out with h | ⟨g5, h1, h2, h3⟩
  · exact Or.inl h
  · exact Or.inr ⟨g5, h1, by omega, ((h3.setOther _ _ (by show w.heap.size + 1 ≠ g5; omega)).setOther _ _ (by show w.heap.size + 1 ≠ g5; omega)).setOther _ _ (by show w.heap.size + 1 ≠ g5; omega)⟩
end Go.Proofs.YtfeolbgenpknfaaGreat
