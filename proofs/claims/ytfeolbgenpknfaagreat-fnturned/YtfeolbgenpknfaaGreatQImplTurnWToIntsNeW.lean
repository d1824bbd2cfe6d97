/- What is proved here: the program's TurnStart, TurnByte, TurnStep, TurnRun: turned bits of plain cells in new memory, or the zero answer; nothing that was there turns.
   What is said here: a row of numbers that grows, beside boxes of vectors. -/
import Derived.Test.YtfeolbgenpknfaaGreatQTKindWToTEndsW
import Derived.Test.YtfeolbgenpknfaaGreatQSpecStartWToVecAddW
import Derived.Test.YtfeolbgenpknfaaGreatQStepVMToMaskD
import Derived.Test.YtfeolbgenpknfaaGreatQSpecKRightWToIsW
import Derived.Test.YtfeolbgenpknfaaGreatQIntRowWToSpecGoesW
import Derived.Test.YtfeolbgenpknfaaGreatQGetBWToClassRightW
namespace Go.Proofs.YtfeolbgenpknfaaGreat
open Go.RowKit

theorem plain_small {n : Nat} {f : Nat → Cel} (h : PlainP n f) : ∀ i, i < n → (f i).c.size ≤ 256 := okSize (fun _ _ hi => right_size hi) h.1
theorem grown_belowT {w W W' : World} {b : Nat} (hb : Below w.heap.size w W) (hg : W.grownBy W' (some b)) (hl : w.heap.size ≤ b) : Below w.heap.size w W' :=
  hb.trans ⟨hg.os, hg.tape, hg.output, by have := hb.size; have := hg.size; omega, fun k hk => hg.block k (by have := hb.size; omega) (fun e => by injection e with e; omega)⟩
set_option maxRecDepth 100000 in
set_option maxHeartbeats 4000000 in
theorem implTurnStart_yes (sa : Option Addr) (n cap m : Nat) (f : Nat → Cel) (w : World) (hn : n ≤ maxLen) (hr : CRow w w.heap.size sa n f) (hc : ∀ i, i < n → (f i).c.size ≤ maxLen) (h : PlainP n f) (hm : m = (n + 31) / 32) :
    Calls Tryz.prog 24 #[.slice sa n cap] w fun e w' => NewVec w (n : Int) m (wordsN (2 ^ n - 1)) e w' := by
  have q0 := boxing w 29 0 none 0 0
  have hn1 := h.1.1
  have hn60 := h.1.2.1
  have C := turnedRowOf_yes sa n cap f (w.alloc (.cells #[.int .i64 0, .slice none 0 0] 29)) hn ((hr.kept q0.1).up q0.1.size) hc h
  have hal : 2 ^ n - 1 < 18446744073709551616 := (bits_all (n := n) (by omega)).lt
  have TV := fun (b : Nat) (W : World) (hk : TReady W b sa n cap f) => turnVec_any b sa n cap (2 ^ n - 1) m f W hal hn1 hn60 hm hk
  clear hn hr hc h hm hal
  obtain ⟨al, hae⟩ : ∃ al, 2 ^ n - 1 = al := ⟨_, rfl⟩
  have HAE : Hid (2 ^ n - 1 = al) := hae
  rw [hae] at TV C ⊢
  clear hae
  go_enter Tryz.func24, Tryz.ntmps24
  go_wp2_with fail
  generalize w.alloc (.cells #[.int .i64 0, .slice none 0 0] 29) = v0 at *
  refine C.mono ?_
  rintro e w1 ⟨b, rfl, hbl, hb1, hrow⟩
  have X1 : Hid (Boxed w1 w.heap.size 29 0 none 0 0) := q0.2.1.kept hb1 rfl
  have S1 : Hid (Since w w1) := since_call (since_call (since_refl _) q0.1) hb1
  have HRD : Hid (TReady w1 b sa n cap f) := Or.inl (by rw [HAE.out]; exact hrow)
  have c1 := hrow.c1
  have hblt := hrow.lt
  clear C hb1 hrow q0
  go_wp2_with fail
  refine (TV b w1 HRD.out).mono ?_
  rintro e w3 ⟨s3, c3, rfl, hb3, ho3⟩
  unfold vecV
  obtain ⟨a0, a1, a2, a3⟩ := (X1.out.kept hb3 rfl).four
  have S3 : Hid (Since w w3) := since_call S1.out hb3
  have O3 : Hid (OwnS w3 w1.heap.size s3 m (wordsN al)) := ho3
  have l1 : w.heap.size < w1.heap.size := X1.out.lt
  have l3 : w.heap.size < w3.heap.size := by have := hb3.size; omega
  clear hb3 ho3
  go_wp2_with fail
  refine bodyPost_ret (v := vecV (n : Int) s3 m c3) (by simp [results, Tryz.results24, go_sem, vecV, a0, a1]) rfl ?_
  refine ⟨_, _, rfl, (since_set (since_set S3.out (by show w.heap.size ≤ w.heap.size; omega)) (by show w.heap.size ≤ w.heap.size; omega)).below, ?_⟩
  rcases O3.out with h | ⟨g5, h1, h2, h3⟩
  · exact Or.inl h
  · exact Or.inr ⟨g5, h1, by omega, (h3.setOther _ _ (by show w.heap.size ≠ g5; omega)).setOther _ _ (by show w.heap.size ≠ g5; omega)⟩
set_option maxRecDepth 100000 in
set_option maxHeartbeats 4000000 in
theorem implTurnStart_no (sa : Option Addr) (n cap : Nat) (f : Nat → Cel) (w : World) (hn : n ≤ maxLen) (hr : CRow w w.heap.size sa n f) (hc : ∀ i, i < n → (f i).c.size ≤ maxLen) (h : ¬ PlainP n f) :
    Calls Tryz.prog 24 #[.slice sa n cap] w fun e w' => NewVec w 0 0 (fun _ => 0) e w' := by
  have q0 := boxing w 29 0 none 0 0
  have C := turnedRowOf_no sa n cap f (w.alloc (.cells #[.int .i64 0, .slice none 0 0] 29)) hn ((hr.kept q0.1).up q0.1.size) hc h
  clear hn hr hc h
  go_enter Tryz.func24, Tryz.ntmps24
  go_wp2_with fail
  generalize w.alloc (.cells #[.int .i64 0, .slice none 0 0] 29) = v0 at *
  refine C.mono ?_
  rintro e w1 ⟨rfl, hb1⟩
  obtain ⟨a0, a1, a2, a3⟩ := (q0.2.1.kept hb1 rfl).four
  have S1 : Hid (Since w w1) := since_call (since_call (since_refl _) q0.1) hb1
  clear C hb1 q0
  go_wp2_with fail
  refine bodyPost_ret (v := vecV 0 none 0 0) (by simp [results, Tryz.results24, go_sem, vecV, a0, a1]) rfl ?_
  exact ⟨_, _, rfl, (since_set (since_set S1.out (by show w.heap.size ≤ w.heap.size; omega)) (by show w.heap.size ≤ w.heap.size; omega)).below, Or.inl rfl⟩
/-- What TurnByte is asked is right. -/
def TurnP (n : Nat) (f : Nat → Cel) (en : Int) : Prop := PlainP n f ∧ 0 ≤ en ∧ en ≤ 255
set_option maxRecDepth 100000 in
set_option maxHeartbeats 4000000 in
theorem implTurnByte_yes (sa : Option Addr) (n cap c m x : Nat) (f : Nat → Cel) (w : World) (hn : n ≤ maxLen) (hr : CRow w w.heap.size sa n f) (hc : ∀ i, i < n → (f i).c.size ≤ maxLen) (h : PlainP n f) (hc9 : c < 256) (hm : m = (n + 31) / 32) (hx : IsBits x (lackB f n c)) :
    Calls Tryz.prog 22 #[.slice sa n cap, .int .i64 (c : Int)] w fun e w' => NewVec w (n : Int) m (wordsN x) e w' := by
  have q0 := boxing w 29 0 none 0 0
  have hn1 := h.1.1
  have hn60 := h.1.2.1
  have HSZ : Hid (∀ i, i < n → (f i).c.size ≤ 256) := plain_small h
  have HX : Hid (IsBits x (lackB f n c)) := hx
  have HR : Hid (CRow w w.heap.size sa n f) := hr
  have C := turnedRowOf_yes sa n cap f (w.alloc (.cells #[.int .i64 0, .slice none 0 0] 29)) hn ((hr.kept q0.1).up q0.1.size) hc h
  have TV := fun (b : Nat) (W : World) (hk : TReady W b sa n cap f) => turnVec_any b sa n cap x m f W hx.lt hn1 hn60 hm hk
  have hc0 : (0 : Int) ≤ (c : Int) := by omega
  have hc1 : (c : Int) ≤ 255 := by omega
  have hwc : IntKind.u8.wrap (c : Int) = (c : Int) := by rw [IntKind.wrap_u8]; omega
  clear hn hr hc h hm hx
  go_enter Tryz.func22, Tryz.ntmps22
  go_wp2_with fail
  generalize w.alloc (.cells #[.int .i64 0, .slice none 0 0] 29) = v0 at *
  refine C.mono ?_
  rintro e w1 ⟨b, rfl, hbl, hb1, hrow⟩
  have X1 : Hid (Boxed w1 w.heap.size 29 0 none 0 0) := q0.2.1.kept hb1 rfl
  have S1 : Hid (Since w w1) := since_call (since_call (since_refl _) q0.1) hb1
  have K1 : Hid (TReady w1 b sa n cap f) := Or.inl hrow
  have R1 : Hid (CRow w1 b sa n f) := ((HR.out.kept q0.1).kept (hb1.mono q0.1.size)).up (by have := q0.1.size; omega)
  have hbw : w.heap.size < b := by have := q0.2.2; omega
  have hblt := hrow.lt
  clear C hb1 hrow q0
  go_wp2_with (first | (go_at_call 47; refine (isByte_yes _ _ hc0 hc1).mono ?_; rintro e w9 ⟨rfl, hw9⟩; rw [hw9]; clear hw9 w9))
  refine (lacking_any b sa n cap c f w1 hn60 hc9 HSZ.out R1.out K1.out).mono ?_
  rintro e w2 ⟨y, rfl, hy, hrd, hg⟩
  obtain rfl := HX.out.uniq hy
  have S2 : Hid (Since w w2) := ⟨grown_belowT S1.out.below hg (Nat.le_of_lt hbw)⟩
  have R2 : Hid (TReady w2 b sa n cap f) := hrd
  have X2 : Hid (Boxed w2 w.heap.size 29 0 none 0 0) := by
    have h9 := hg.block w.heap.size X1.out.lt (fun e => by injection e with e; omega)
    show Boxed w2 w.heap.size 29 0 none 0 0
    unfold Boxed
    rw [h9]
    exact X1.out
  clear hy hrd hg
  go_wp2_with fail
  refine (TV b w2 R2.out).mono ?_
  rintro e w3 ⟨s3, c3, rfl, hb3, ho3⟩
  unfold vecV
  obtain ⟨a0, a1, a2, a3⟩ := (X2.out.kept hb3 rfl).four
  have S3 : Hid (Since w w3) := since_call S2.out hb3
  have O3 : Hid (OwnS w3 w2.heap.size s3 m (wordsN x)) := ho3
  have l1 : w.heap.size < w2.heap.size := X2.out.lt
  have l3 : w.heap.size < w3.heap.size := by have := hb3.size; omega
  clear hb3 ho3
  go_wp2_with fail
  refine bodyPost_ret (v := vecV (n : Int) s3 m c3) (by simp [results, Tryz.results22, go_sem, vecV, a0, a1]) rfl ?_
  refine ⟨_, _, rfl, (since_set (since_set S3.out (by show w.heap.size ≤ w.heap.size; omega)) (by show w.heap.size ≤ w.heap.size; omega)).below, ?_⟩
  rcases O3.out with h | ⟨g5, h1, h2, h3⟩
  · exact Or.inl h
  · exact Or.inr ⟨g5, h1, by omega, (h3.setOther _ _ (by show w.heap.size ≠ g5; omega)).setOther _ _ (by show w.heap.size ≠ g5; omega)⟩
set_option maxRecDepth 100000 in
set_option maxHeartbeats 4000000 in
theorem implTurnByte_no (sa : Option Addr) (n cap : Nat) (en : Int) (f : Nat → Cel) (w : World) (hn : n ≤ maxLen) (hr : CRow w w.heap.size sa n f) (hc : ∀ i, i < n → (f i).c.size ≤ maxLen) (h : ¬ TurnP n f en) :
    Calls Tryz.prog 22 #[.slice sa n cap, .int .i64 en] w fun e w' => NewVec w 0 0 (fun _ => 0) e w' := by
  have q0 := boxing w 29 0 none 0 0
  by_cases hk : PlainP n f
  · have C := turnedRowOf_yes sa n cap f (w.alloc (.cells #[.int .i64 0, .slice none 0 0] 29)) hn ((hr.kept q0.1).up q0.1.size) hc hk
    have HEN : Hid (¬ (0 ≤ en ∧ en ≤ 255)) := fun h9 => h ⟨hk, h9.1, h9.2⟩
    clear hn hr hc h hk
    go_enter Tryz.func22, Tryz.ntmps22
    go_wp2_with fail
    generalize w.alloc (.cells #[.int .i64 0, .slice none 0 0] 29) = v0 at *
    refine C.mono ?_
    rintro e w1 ⟨b, rfl, hbl, hb1, hrow⟩
    obtain ⟨a0, a1, a2, a3⟩ := (q0.2.1.kept hb1 rfl).four
    have S1 : Hid (Since w w1) := since_call (since_call (since_refl _) q0.1) hb1
    clear C hb1 hrow q0
    go_wp2_with (first | (go_at_call 47; refine (isByte_no _ _ HEN.out).mono ?_; rintro e w9 ⟨rfl, hw9⟩; rw [hw9]; clear hw9 w9))
    refine bodyPost_ret (v := vecV 0 none 0 0) (by simp [results, Tryz.results22, go_sem, vecV, a0, a1]) rfl ?_
    exact ⟨_, _, rfl, (since_set (since_set S1.out (by show w.heap.size ≤ w.heap.size; omega)) (by show w.heap.size ≤ w.heap.size; omega)).below, Or.inl rfl⟩
  · have C := turnedRowOf_no sa n cap f (w.alloc (.cells #[.int .i64 0, .slice none 0 0] 29)) hn ((hr.kept q0.1).up q0.1.size) hc hk
    clear hn hr hc h hk
    go_enter Tryz.func22, Tryz.ntmps22
    go_wp2_with fail
    generalize w.alloc (.cells #[.int .i64 0, .slice none 0 0] 29) = v0 at *
    refine C.mono ?_
    rintro e w1 ⟨rfl, hb1⟩
    obtain ⟨a0, a1, a2, a3⟩ := (q0.2.1.kept hb1 rfl).four
    have S1 : Hid (Since w w1) := since_call (since_call (since_refl _) q0.1) hb1
    clear C hb1 q0
    go_wp2_with fail
    refine bodyPost_ret (v := vecV 0 none 0 0) (by simp [results, Tryz.results22, go_sem, vecV, a0, a1]) rfl ?_
    exact ⟨_, _, rfl, (since_set (since_set S1.out (by show w.heap.size ≤ w.heap.size; omega)) (by show w.heap.size ≤ w.heap.size; omega)).below, Or.inl rfl⟩
theorem implTurnRun_no (sa : Option Addr) (n cap : Nat) (f : Nat → Cel) (t : ByteArray) (w : World) (hn : n ≤ maxLen) (hr : CRow w w.heap.size sa n f) (hc : ∀ i, i < n → (f i).c.size ≤ maxLen) (ht : t.size ≤ maxLen) (h : ¬ (t.size ≤ 8000 ∧ PlainP n f)) :
    Calls Tryz.prog 5 #[.slice sa n cap, .string t] w fun r w' => NewInts w 0 (fun _ => 0) r w' := by
  unfold maxLen at ht
  by_cases h8 : 8000 < (t.size : Int)
  · go_enter Tryz.func5, Tryz.ntmps5
    go_wp2_with fail
    go_ret
    exact ⟨none, 0, rfl, Below.refl _ _, Or.inl rfl⟩
  · have C := turnedRowOf_no sa n cap f w hn hr hc (fun h9 => h ⟨by omega, h9⟩)
    clear hn hr hc h
    go_enter Tryz.func5, Tryz.ntmps5
    go_wp2_with fail
    refine C.mono ?_
    rintro e w1 ⟨rfl, hb1⟩
    have B1 : Hid (Below w.heap.size w w1) := hb1
    clear hb1 C
    go_wp2_with fail
    go_ret
    exact ⟨none, 0, rfl, B1.out, Or.inl rfl⟩
set_option maxHeartbeats 1000000 in
theorem implTurnRun_yes (sa : Option Addr) (n cap : Nat) (f : Nat → Cel) (t : ByteArray) (w : World) (hn : n ≤ maxLen) (hr : CRow w w.heap.size sa n f) (hc : ∀ i, i < n → (f i).c.size ≤ maxLen) (ht : t.size ≤ 8000) (h : PlainP n f) :
    Calls Tryz.prog 5 #[.slice sa n cap, .string t] w fun r w' => NewInts w (turnL f n t).length (fun i => (turnL f n t).getD i 0) r w' := by
  have C := turnedRowOf_yes sa n cap f w hn hr hc h
  have HSZ : Hid (∀ i, i < n → (f i).c.size ≤ 256) := plain_small h
  have HR : Hid (CRow w w.heap.size sa n f) := hr
  have hn1 := h.1.1
  have hn60 := h.1.2.1
  have h8 : ¬ 8000 < (t.size : Int) := by omega
  clear hn hr hc h
  go_enter Tryz.func5, Tryz.ntmps5
  go_wp2_with fail
  refine C.mono ?_
  rintro e w1 ⟨b, rfl, hbl, hb1, hrow⟩
  have B1 : Hid (Below w.heap.size w w1) := hb1
  have K1 : Hid (TReady w1 b sa n cap f) := Or.inl hrow
  have R1 : Hid (CRow w1 b sa n f) := (HR.out.kept hb1).up hbl
  clear hb1 hrow C
  go_wp2_with fail
  refine (turnEnds_any b sa n cap f t w1 hn1 hn60 ht HSZ.out R1.out K1.out).mono ?_
  rintro e w2 ⟨s, c, rfl, hb2, ho2⟩
  have N2 : Hid (NewInts w (turnL f n t).length (fun i => (turnL f n t).getD i 0) (.returned (.slice s (turnL f n t).length c)) w2) := ⟨s, c, rfl, B1.out.trans (hb2.mono hbl), ho2.low B1.out.size⟩
  clear hb2 ho2
  go_wp2_with fail
  go_ret
  exact N2.out
end Go.Proofs.YtfeolbgenpknfaaGreat
namespace Go.Proofs.YtfeolbgenpknfaaGreat
open Go.RowKit

theorem ints_ne {w : World} {base n p m c : Nat} {b : Int} {s : Option Addr} {v : Value} {xs : List Value} (h : w.ownsRow base 2 1 v n xs) (hx : Boxed w p 29 b s m c) : v.ownBlock ≠ some p := by
  rcases h.2 with ⟨rfl, _⟩ | ⟨g, cap, cur, rfl, _, hh, _⟩
  · intro e
    cases e
  · intro e
    have e2 : g = p := by injection e
    subst e2
    unfold Boxed at hx
    rw [hx] at hh
    injection hh with hh
    injection hh with _ h2 _
    exact absurd h2 (by decide)
theorem ints_other {w w' : World} {base n size p : Nat} {e : TypeId} {v : Value} {xs : List Value} (h : w.ownsRow base e size v n xs) (hg : w.grownBy w' (some p)) (hne : v.ownBlock ≠ some p) : w'.ownsRow base e size v n xs := by
  obtain ⟨hl, h⟩ := h
  refine ⟨hl, ?_⟩
  rcases h with h | ⟨g, cap, cur, h1, h2, h3, h4⟩
  · exact Or.inl h
  · refine Or.inr ⟨g, cap, cur, h1, h2, ?_, h4⟩
    rw [hg.block g (lt_of_block h3) (fun e => hne (by rw [h1]; exact e))]
    exact h3
theorem boxed_row {W W' : World} {p : Nat} {t : TypeId} {x : Int} {sa : Option Addr} {n cap : Nat} {row : Option Nat} (h : Boxed W p t x sa n cap) (hg : W.grownBy W' row) (hne : row ≠ some p) : Boxed W' p t x sa n cap := by
  unfold Boxed
  rw [hg.block p h.lt (fun e => hne e.symm)]
  exact h
theorem own_row {W W' : World} {g n : Nat} {f : Nat → Int} {row : Option Nat} (h : Own W g n f) (hg : W.grownBy W' row) (hne : row ≠ some g) : Own W' g n f := by
  have hb := hg.block g h.1 (fun e => hne e.symm)
  refine ⟨Nat.lt_of_lt_of_le h.1 hg.size, fun i hi => ?_, fun i hi => ?_⟩
  · have := h.2.1 i hi
    simpa [World.cell?, hb] using this
  · have := h.2.2 i hi
    simpa [World.frozen?, hb] using this
theorem boxed_store {W : World} {p : Nat} {t : TypeId} {b b' : Int} {s s' : Option Addr} {n n' c c' : Nat} (h : Boxed W p t b s n c) : Boxed ((W.setCell ⟨p, 0, none⟩ (.int .i64 b')).setCell ⟨p, 1, none⟩ (.slice s' n' c')) p t b' s' n' c' := by
  unfold Boxed at h ⊢
  have h1 := heap_setCell_same W p 0 _ _ (.int .i64 b') h
  have h2 := heap_setCell_same _ p 1 _ _ (.slice s' n' c') h1
  rw [h2]
  rfl
/-- What a statement 'y := ..' over steps leaves: y's box, its bits, whether it hit. -/
def CutT (w : World) (b : Int) (m : Nat) (P : Nat → Bool) (t : Bool) (pv : Value) (wc : World) : Prop := ∃ h : Nat → Int, CutS w b m h t pv wc ∧ VecIs h P m
end Go.Proofs.YtfeolbgenpknfaaGreat
