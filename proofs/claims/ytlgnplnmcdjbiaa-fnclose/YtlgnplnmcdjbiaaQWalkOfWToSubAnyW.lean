/- What is proved here: the program makes a walk that stands where each begins, tells where it stands, and tells where each begins; nothing that was there turns.
   What is proved here: the specification's l02Two says whether two vectors are right and of as many bits; nothing that was there turns.
   What is proved here: the specification's bit by bit functions over two right vectors hand back a new vector, word by word (l02Xor); nothing that was there turns.
   What is proved here: the specification takes one row of words from another, in new memory; nothing that was there turns. -/
import Derived.Test.YtlgnplnmcdjbiaaQMRowOfWToReadyW
import Derived.Deep.RegionHeld3
import Derived.Test.YtlgnplnmcdjbiaaQMakeWToVecNotW
import Derived.BigRegion
import Derived.Test.YtlgnplnmcdjbiaaQSpecStartWToVecAddW
import Derived.Deep.RegionWith
namespace Go.Proofs.Ytlgnplnmcdjbiaa
open Go.RowKit

/-- Where each begins. -/
def startB (f : Nat → Cel) (n : Nat) : Nat → Bool := cloB (skipB f n) (fun j => decide (0 = j))
theorem start_le (f : Nat → Cel) (n : Nat) : ∀ j, n < j → startB f n j = false := fun j hj => clo_le (skip_le f n) (fun j hj => decide_eq_false (by omega)) j hj
/-- A walk in its block. -/
structure WBox (W : World) (q r be at' : Nat) : Prop where
  c0 : W.cell? ⟨q, 0, none⟩ = some (.pointer (some ⟨r, 0, none⟩))
  c1 : W.cell? ⟨q, 1, none⟩ = some (.int .u64 (be : Int))
  c2 : W.cell? ⟨q, 2, none⟩ = some (.int .u64 (at' : Int))
  f2 : W.frozen? ⟨q, 2, none⟩ = false
  lt : q < W.heap.size
theorem WBox.kept {W W' : World} {B q r be a : Nat} (h : WBox W q r be a) (hb : Below B W W') (hB : q < B) : WBox W' q r be a :=
  ⟨by rw [hb.cell (p := ⟨q, 0, none⟩) hB]; exact h.c0, by rw [hb.cell (p := ⟨q, 1, none⟩) hB]; exact h.c1, by rw [hb.cell (p := ⟨q, 2, none⟩) hB]; exact h.c2, by rw [hb.frozen (p := ⟨q, 2, none⟩) hB]; exact h.f2, Nat.lt_of_lt_of_le h.lt hb.size⟩
theorem WBox.grown {W W' : World} {g q r be a : Nat} (h : WBox W q r be a) (hg : W.grownBy W' (some g)) (hne : q ≠ g) : WBox W' q r be a := by
  have hb := hg.block q h.lt (fun e => hne (by injection e))
  refine ⟨?_, ?_, ?_, ?_, Nat.lt_of_lt_of_le h.lt hg.size⟩
  · have := h.c0
    simpa [World.cell?, hb] using this
  · have := h.c1
    simpa [World.cell?, hb] using this
  · have := h.c2
    simpa [World.cell?, hb] using this
  · have := h.f2
    simpa [World.frozen?, hb] using this
theorem wbox_new (W : World) (r be a : Nat) (t : TypeId) : WBox (W.alloc (.cells #[.pointer (some ⟨r, 0, none⟩), .int .u64 (be : Int), .int .u64 (a : Int)] t)) W.heap.size r be a :=
  ⟨by simp, by simp, by simp, frozen_of_row _ _ _ _ _ (heap_alloc_new W _), by simp⟩
/-- A walk, its row and its masks: three blocks. -/
structure Walks (W : World) (q r b : Nat) (sa : Option Addr) (n cap : Nat) (f : Nat → Cel) (be at' sk lo fi la bl st fin : Nat) : Prop where
  w : WBox W q r be at'
  m : MRow W r b fi la bl st fin
  k : Ready W b sa n cap sk lo f
  ne : b < r ∧ r < q
  ok : MasksOk (skipB f n) n fi la bl st fin
  sk : IsBits sk (behind (fun i => (f i).k) n)
  lo : IsBits lo (behind (fun i => (f i).o) n)
  be : IsBits be (startB f n)
/-- A walk that stands at some places. -/
def WalkAt (W : World) (lo : Nat) (q : Nat) (sa : Option Addr) (n cap : Nat) (f : Nat → Cel) (P : Nat → Bool) : Prop :=
  ∃ r b be a sk l fi la bl st fin : Nat, Walks W q r b sa n cap f be a sk l fi la bl st fin ∧ lo ≤ b ∧ IsBits a P
theorem walkOf_no (sa : Option Addr) (n cap : Nat) (f : Nat → Cel) (w : World) (hn : n ≤ maxLen) (hr : CRow w w.heap.size sa n f) (hc : ∀ i, i < n → (f i).c.size ≤ maxLen) (h : ¬ CellsOk n f) :
    Calls Try.prog 121 #[.slice sa n cap] w fun e w' => e = .returned (.pointer none) ∧ Below w.heap.size w w' := by
  have C := mrowOf_no sa n cap f w hn hr hc h
  clear hn hr hc h
  go_enter Try.func121, Try.ntmps121
  go_wp2_with fail
  refine C.mono ?_
  rintro e w1 ⟨rfl, hb1⟩
  have B1 : Hid (Below w.heap.size w w1) := hb1
  clear hb1 C
  go_wp2_with fail
  go_ret
  exact ⟨rfl, B1.out⟩
set_option maxRecDepth 100000 in
set_option maxHeartbeats 4000000 in
theorem walkOf_yes (sa : Option Addr) (n cap : Nat) (f : Nat → Cel) (w : World) (hn : n ≤ maxLen) (hr : CRow w w.heap.size sa n f) (hc : ∀ i, i < n → (f i).c.size ≤ maxLen) (h : CellsOk n f) :
    Calls Try.prog 121 #[.slice sa n cap] w fun e w' => ∃ q : Nat, e = .returned (.pointer (some ⟨q, 0, none⟩)) ∧ Below w.heap.size w w' ∧ WalkAt w' w.heap.size q sa n cap f (startB f n) := by
  have C := mrowOf_yes sa n cap f w hn hr hc h
  have hn60 := h.2.1
  clear hn hr hc h
  go_enter Try.func121, Try.ntmps121
  go_wp2_with fail
  refine C.mono ?_
  rintro e w1 ⟨r, b, sk, lo, fi, la, bl, st, fin, rfl, hbl, hbr, hb1, hsk, hlo, hk, hm, hok⟩
  have S1 : Hid (Since w w1) := ⟨hb1⟩
  have F1 : Hid (w.heap.size ≤ b ∧ b < r ∧ IsBits sk (behind (fun i => (f i).k) n) ∧ IsBits lo (behind (fun i => (f i).o) n) ∧ KRow w1 b sa n cap sk lo 0 0 (fun _ => 0) ∧ MRow w1 r b fi la bl st fin ∧ MasksOk (skipB f n) n fi la bl st fin) := ⟨hbl, hbr, hsk, hlo, hk, hm, hok⟩
  have m4 := hm.c4
  have ml := hm.lt
  clear C hbl hbr hb1 hsk hlo hk hm hok
  go_wp2_with fail
  refine (once_any r b st fi la bl st fin n (skipB f n) (fun j => decide (0 = j)) _ hn60 F1.out.2.2.2.2.2.1 F1.out.2.2.2.2.2.2 F1.out.2.2.2.2.2.2.s (fun j hj => decide_eq_false (by omega))).mono ?_
  rintro e w2 ⟨be, rfl, hbe, hb2⟩
  have S2 : Hid (Since w w2) := since_call S1.out hb2
  have F2 : Hid (w.heap.size ≤ b ∧ b < r ∧ IsBits sk (behind (fun i => (f i).k) n) ∧ IsBits lo (behind (fun i => (f i).o) n) ∧ KRow w2 b sa n cap sk lo 0 0 (fun _ => 0) ∧ MRow w2 r b fi la bl st fin ∧ MasksOk (skipB f n) n fi la bl st fin ∧ IsBits be (startB f n) ∧ r < w2.heap.size) := ⟨F1.out.1, F1.out.2.1, F1.out.2.2.1, F1.out.2.2.2.1, F1.out.2.2.2.2.1.kept hb2 F1.out.2.2.2.2.1.lt, F1.out.2.2.2.2.2.1.kept hb2 ml, F1.out.2.2.2.2.2.2, hbe, (F1.out.2.2.2.2.2.1.kept hb2 ml).lt⟩
  clear hb2 hbe S1 F1 m4 ml
  go_wp2_with fail
  go_ret
  obtain ⟨g1, g2, g3, g4, g5, g6, g7, g8, g9⟩ := F2.out
  have hal : Below w2.heap.size w2 (w2.alloc (.cells #[.pointer (some ⟨r, 0, none⟩), .int .u64 (be : Int), .int .u64 (be : Int)] 212)) := (Below.refl _ _).alloc (Nat.le_refl _) _
  exact ⟨w2.heap.size, rfl, (since_call S2.out hal).below, r, b, be, be, sk, lo, fi, la, bl, st, fin, ⟨wbox_new w2 r be be _, g6.kept hal g9, Or.inl (g5.kept hal g5.lt), ⟨g2, g9⟩, g7, g3, g4, g8⟩, g1, g8⟩
set_option maxRecDepth 100000 in
set_option maxHeartbeats 4000000 in
theorem vecAt_any (q : Nat) (sa : Option Addr) (n cap m lo x : Nat) (f : Nat → Cel) (P : Nat → Bool) (w : World) (hn : n ≤ 60) (hm : m = (n + 1 + 31) / 32) (hw : WalkAt w lo q sa n cap f P) (hx : IsBits x P) :
    Calls Try.prog 122 #[.pointer (some ⟨q, 0, none⟩)] w fun e w' => NewVec w ((n : Int) + 1) m (wordsN x) e w' := by
  obtain ⟨r, b, be, a, sk, l, fi, la, bl, st, fin, ⟨h1, h2, h3, h4, h5, h6, h7, h8⟩, h9, h10⟩ := hw
  obtain rfl := hx.uniq h10
  have k0 : w.cell? ⟨b, 0, none⟩ = some (.slice sa n cap) := by
    rcases h3 with h | ⟨tab, h, _⟩
    · exact h.c0
    · exact h.c0
  have kl := h3.cells.2.2
  obtain ⟨c0, c1, c2, f2, wl⟩ := h1
  have r0 := h2.c0
  have rl := h2.lt
  have q0 := boxing w 45 0 none 0 0
  have HP : Hid (∀ W, Calls Try.prog 102 #[.int .u64 (x : Int), .int .i64 (n : Int)] W fun e w' => NewVec W ((n : Int) + 1) m (wordsN x) e w') := fun W => pvec_any x n m W hx.lt hn hm
  have hb0 := q0.1
  have wq := wl
  have wr := rl
  have wb := kl
  have d0 := (hb0.cell (p := ⟨q, 0, none⟩) wl).trans c0
  have d2 := (hb0.cell (p := ⟨q, 2, none⟩) wl).trans c2
  have s0 := (hb0.cell (p := ⟨r, 0, none⟩) rl).trans r0
  have t0 := (hb0.cell (p := ⟨b, 0, none⟩) kl).trans k0
  have wl' := Nat.lt_of_lt_of_le wl hb0.size
  have rl' := Nat.lt_of_lt_of_le rl hb0.size
  have kl' := Nat.lt_of_lt_of_le kl hb0.size
  have X0 : Hid (Boxed (w.alloc (.cells #[.int .i64 0, .slice none 0 0] 45)) w.heap.size 45 0 none 0 0) := q0.2.1
  have S0 : Hid (Since w (w.alloc (.cells #[.int .i64 0, .slice none 0 0] 45))) := ⟨hb0⟩
  have hz := q0.2.2
  clear h2 h3 h4 h5 h6 h7 h8 h9 h10 hx hm c0 c1 c2 f2 r0 k0 wl rl kl hb0 q0
  go_enter Try.func122, Try.ntmps122
  go_wp2_with fail
  generalize w.alloc (.cells #[.int .i64 0, .slice none 0 0] 45) = v0 at *
  obtain ⟨x0, x1, xf0, xf1⟩ := X0.out.four
  have xl := X0.out.lt
  have hqn : w.heap.size ≠ q := Nat.ne_of_gt wq
  have hrn : w.heap.size ≠ r := Nat.ne_of_gt wr
  have hbn : w.heap.size ≠ b := Nat.ne_of_gt wb
  have bd : Below v0.heap.size v0 v0.drew := ⟨rfl, rfl, rfl, Nat.le_refl _, fun _ _ => rfl⟩
  go_region_held3 (fun W => W.cell? ⟨q, 0, none⟩ = some (.pointer (some ⟨r, 0, none⟩)) ∧ W.cell? ⟨q, 2, none⟩ = some (.int .u64 (x : Int)) ∧ W.cell? ⟨r, 0, none⟩ = some (.pointer (some ⟨b, 0, none⟩)) ∧ W.cell? ⟨b, 0, none⟩ = some (.slice sa n cap)) (go_keep) (first | (go_at_call 102; (with_reducible refine (HP.out _).mono ?_); rintro e w2 ⟨s2, c2, rfl, hb, ho⟩; unfold vecV; have hb' := bd.trans hb; obtain ⟨a0, a1, af0, af1⟩ := (X0.out.kept hb' rfl).four; have al := (X0.out.kept hb' rfl).lt; have d0' := (hb'.cell (p := ⟨q, 0, none⟩) wl').trans d0; have d2' := (hb'.cell (p := ⟨q, 2, none⟩) wl').trans d2; have s0' := (hb'.cell (p := ⟨r, 0, none⟩) rl').trans s0; have t0' := (hb'.cell (p := ⟨b, 0, none⟩) kl').trans t0; have wl2 := Nat.lt_of_lt_of_le wl' hb'.size; have rl2 := Nat.lt_of_lt_of_le rl' hb'.size; have kl2 := Nat.lt_of_lt_of_le kl' hb'.size; have S2 : Hid (Since w w2) := since_call S0.out hb'; have O2 : Hid (OwnS w2 v0.heap.size s2 m (wordsN x)) := ho; clear hb ho hb'))
  all_goals
    go_wp2_with fail
    refine bodyPost_ret (v := vecV ((n : Int) + 1) s2 m c2) (by simp [results, Try.results122, go_sem, vecV, a0, a1]) rfl ?_
    refine ⟨_, _, rfl, (since_set (since_set S2.out (by show w.heap.size ≤ w.heap.size; omega)) (by show w.heap.size ≤ w.heap.size; omega)).below, ?_⟩
    rcases O2.out with h | ⟨g5, h1, h2, h3⟩
    · exact Or.inl h
    · exact Or.inr ⟨g5, h1, by omega, (h3.setOther _ _ (by show w.heap.size ≠ g5; omega)).setOther _ _ (by show w.heap.size ≠ g5; omega)⟩
theorem implStart_no (sa : Option Addr) (n cap : Nat) (f : Nat → Cel) (w : World) (hn : n ≤ maxLen) (hr : CRow w w.heap.size sa n f) (hc : ∀ i, i < n → (f i).c.size ≤ maxLen) (h : ¬ CellsOk n f) :
    Calls Try.prog 37 #[.slice sa n cap] w fun e w' => NewVec w 0 0 (fun _ => 0) e w' := by
  have q0 := boxing w 45 0 none 0 0
  have C := walkOf_no sa n cap f (w.alloc (.cells #[.int .i64 0, .slice none 0 0] 45)) hn ((hr.kept q0.1).up q0.1.size) hc h
  clear hn hr hc h
  go_enter Try.func37, Try.ntmps37
  go_wp2_with fail
  generalize w.alloc (.cells #[.int .i64 0, .slice none 0 0] 45) = v0 at *
  refine C.mono ?_
  rintro e w1 ⟨rfl, hb1⟩
  obtain ⟨a0, a1, a2, a3⟩ := (q0.2.1.kept hb1 rfl).four
  have S1 : Hid (Since w w1) := since_call (since_call (since_refl _) q0.1) hb1
  have xl := (q0.2.1.kept hb1 rfl).lt
  clear C hb1 q0
  go_wp2_with fail
  refine bodyPost_ret (v := vecV 0 none 0 0) (by simp [results, Try.results37, go_sem, vecV, a0, a1]) rfl ?_
  exact ⟨_, _, rfl, (since_set (since_set S1.out (by show w.heap.size ≤ w.heap.size; omega)) (by show w.heap.size ≤ w.heap.size; omega)).below, Or.inl rfl⟩
theorem implStart_yes (sa : Option Addr) (n cap m x : Nat) (f : Nat → Cel) (w : World) (hn : n ≤ maxLen) (hr : CRow w w.heap.size sa n f) (hc : ∀ i, i < n → (f i).c.size ≤ maxLen) (h : CellsOk n f) (hm : m = (n + 1 + 31) / 32) (hx : IsBits x (startB f n)) :
    Calls Try.prog 37 #[.slice sa n cap] w fun e w' => NewVec w ((n : Int) + 1) m (wordsN x) e w' := by
  have q0 := boxing w 45 0 none 0 0
  have C := walkOf_yes sa n cap f (w.alloc (.cells #[.int .i64 0, .slice none 0 0] 45)) hn ((hr.kept q0.1).up q0.1.size) hc h
  have hn60 := h.2.1
  have HX : Hid (IsBits x (startB f n)) := hx
  have HM : Hid (m = (n + 1 + 31) / 32) := hm
  clear hn hr hc h hx hm
  go_enter Try.func37, Try.ntmps37
  go_wp2_with fail
  generalize w.alloc (.cells #[.int .i64 0, .slice none 0 0] 45) = v0 at *
  refine C.mono ?_
  rintro e w1 ⟨q, rfl, hb1, hw1⟩
  have X1 : Hid (Boxed w1 w.heap.size 45 0 none 0 0) := q0.2.1.kept hb1 rfl
  have S1 : Hid (Since w w1) := since_call (since_call (since_refl _) q0.1) hb1
  have W1 : Hid (WalkAt w1 v0.heap.size q sa n cap f (startB f n)) := hw1
  clear C hb1 q0 hw1
  go_wp2_with fail
  refine (vecAt_any q sa n cap m _ x f _ w1 hn60 HM.out W1.out HX.out).mono ?_
  rintro e w3 ⟨s3, c3, rfl, hb3, ho3⟩
  unfold vecV
  obtain ⟨a0, a1, a2, a3⟩ := (X1.out.kept hb3 rfl).four
  have S3 : Hid (Since w w3) := since_call S1.out hb3
  have O3 : Hid (OwnS w3 w1.heap.size s3 m (wordsN x)) := ho3
  have l3 : w.heap.size < w3.heap.size := by have := hb3.size; have := X1.out.lt; omega
  have l2 : w.heap.size < w1.heap.size := X1.out.lt
  clear hb3 ho3
  go_wp2_with fail
  refine bodyPost_ret (v := vecV ((n : Int) + 1) s3 m c3) (by simp [results, Try.results37, go_sem, vecV, a0, a1]) rfl ?_
  refine ⟨_, _, rfl, (since_set (since_set S3.out (by show w.heap.size ≤ w.heap.size; omega)) (by show w.heap.size ≤ w.heap.size; omega)).below, ?_⟩
  rcases O3.out with h | ⟨g5, h1, h2, h3⟩
  · exact Or.inl h
  · exact Or.inr ⟨g5, h1, by omega, (h3.setOther _ _ (by show w.heap.size ≠ g5; omega)).setOther _ _ (by show w.heap.size ≠ g5; omega)⟩
end Go.Proofs.Ytlgnplnmcdjbiaa
namespace Go.Proofs.Ytlgnplnmcdjbiaa
open Go.RowKit

open Classical in
set_option maxHeartbeats 2000000 in
theorem two_any (b c : Int) (sa sb : Option Addr) (n m ka kb : Nat) (f g : Nat → Int) (w : World) (hn : n ≤ 1048576) (hm : m ≤ 1048576) (ha : Row w w.heap.size sa n f) (hb : Row w w.heap.size sb m g) :
    Calls Try.prog 115 #[.agg #[.int .i64 b, .slice sa n ka], .agg #[.int .i64 c, .slice sb m kb]] w fun e w' => e = .returned (.bool (decide (Right b n f ∧ Right c m g ∧ b = c))) ∧ Below w.heap.size w w' := by
  have HA : Hid (Row w w.heap.size sa n f) := ha
  have HB : Hid (Row w w.heap.size sb m g) := hb
  clear ha hb
  have C1 := fun W h => specRight_any b sa n ka f W hn h
  have C2 := fun W h => specRight_any c sb m kb g W hm h
  have HC1 : Hid (∀ W, Row W W.heap.size sa n f → Calls Try.prog 125 #[.agg #[.int .i64 b, .slice sa n ka]] W fun e w' => e = .returned (.bool (decide (Right b n f))) ∧ Below W.heap.size W w') := C1
  have HC2 : Hid (∀ W, Row W W.heap.size sb m g → Calls Try.prog 125 #[.agg #[.int .i64 c, .slice sb m kb]] W fun e w' => e = .returned (.bool (decide (Right c m g))) ∧ Below W.heap.size W w') := C2
  clear C1 C2
  by_cases h1 : Right b n f
  · by_cases h2 : Right c m g
    · have e0 : decide (Right b n f ∧ Right c m g ∧ b = c) = decide (b = c) := by simp [h1, h2]
      rw [e0]
      have e1 : decide (Right b n f) = true := decide_eq_true h1
      have e2 : decide (Right c m g) = true := decide_eq_true h2
      rw [e1] at HC1
      rw [e2] at HC2
      clear h1 h2 e0 e1 e2
      go_enter Try.func115, Try.ntmps115
      go_wp2_with fail
      have q1 := boxing w 45 b sa n ka
      generalize w.alloc (.cells #[.int .i64 b, .slice sa n ka] 45) = v1 at *
      have q2 := boxing v1 45 c sb m kb
      generalize v1.alloc (.cells #[.int .i64 c, .slice sb m kb] 45) = v2 at *
      have X1 : Hid (Boxed v2 w.heap.size 45 b sa n ka) := q1.2.1.kept q2.1 rfl
      have X2 : Hid (Boxed v2 (w.heap.size + 1) 45 c sb m kb) := by rw [← q1.2.2]; exact q2.2.1
      have S2 : Hid (Since w v2) := since_call (since_call (since_refl _) q1.1) q2.1
      clear q1 q2
      refine (HC1.out _ (row_since HA.out S2.out)).mono ?_
      rintro e w3 ⟨rfl, hb3⟩
      have S3 : Hid (Since w w3) := since_call S2.out hb3
      have Y1 : Hid (Boxed w3 w.heap.size 45 b sa n ka) := X1.out.kept hb3 rfl
      have Y2 : Hid (Boxed w3 (w.heap.size + 1) 45 c sb m kb) := X2.out.kept hb3 rfl
      clear hb3 X1 X2 S2
      obtain ⟨ca0, ca1⟩ := Y1.out.cells
      obtain ⟨cb0, cb1⟩ := Y2.out.cells
      go_wp2_with fail
      refine (HC2.out _ (row_since HB.out S3.out)).mono ?_
      clear ca0 ca1 cb0 cb1
      rintro e w4 ⟨rfl, hb4⟩
      have S4 : Hid (Since w w4) := since_call S3.out hb4
      obtain ⟨ca0, ca1⟩ := (Y1.out.kept hb4 rfl).cells
      obtain ⟨cb0, cb1⟩ := (Y2.out.kept hb4 rfl).cells
      clear hb4
      go_wp2
      go_ret
      exact ⟨ret_bool (by simp), S4.out.below⟩
    · have e0 : decide (Right b n f ∧ Right c m g ∧ b = c) = false := by simp [h2]
      rw [e0]
      have e1 : decide (Right b n f) = true := decide_eq_true h1
      have e2 : decide (Right c m g) = false := decide_eq_false h2
      rw [e1] at HC1
      rw [e2] at HC2
      clear h1 h2 e0 e1 e2
      go_enter Try.func115, Try.ntmps115
      go_wp2_with fail
      have q1 := boxing w 45 b sa n ka
      generalize w.alloc (.cells #[.int .i64 b, .slice sa n ka] 45) = v1 at *
      have q2 := boxing v1 45 c sb m kb
      generalize v1.alloc (.cells #[.int .i64 c, .slice sb m kb] 45) = v2 at *
      have X1 : Hid (Boxed v2 w.heap.size 45 b sa n ka) := q1.2.1.kept q2.1 rfl
      have X2 : Hid (Boxed v2 (w.heap.size + 1) 45 c sb m kb) := by rw [← q1.2.2]; exact q2.2.1
      have S2 : Hid (Since w v2) := since_call (since_call (since_refl _) q1.1) q2.1
      clear q1 q2
      refine (HC1.out _ (row_since HA.out S2.out)).mono ?_
      rintro e w3 ⟨rfl, hb3⟩
      have S3 : Hid (Since w w3) := since_call S2.out hb3
      obtain ⟨ca0, ca1⟩ := (X1.out.kept hb3 rfl).cells
      obtain ⟨cb0, cb1⟩ := (X2.out.kept hb3 rfl).cells
      clear hb3 X1 X2 S2
      go_wp2_with fail
      refine (HC2.out _ (row_since HB.out S3.out)).mono ?_
      clear ca0 ca1 cb0 cb1
      rintro e w4 ⟨rfl, hb4⟩
      have S4 : Hid (Since w w4) := since_call S3.out hb4
      clear hb4
      go_wp2
      go_ret
      exact ⟨rfl, S4.out.below⟩
  · have e0 : decide (Right b n f ∧ Right c m g ∧ b = c) = false := by simp [h1]
    rw [e0]
    have e1 : decide (Right b n f) = false := decide_eq_false h1
    rw [e1] at HC1
    clear h1 e0 e1 HC2
    go_enter Try.func115, Try.ntmps115
    go_wp2_with fail
    have q1 := boxing w 45 b sa n ka
    generalize w.alloc (.cells #[.int .i64 b, .slice sa n ka] 45) = v1 at *
    have q2 := boxing v1 45 c sb m kb
    generalize v1.alloc (.cells #[.int .i64 c, .slice sb m kb] 45) = v2 at *
    have S2 : Hid (Since w v2) := since_call (since_call (since_refl _) q1.1) q2.1
    clear q1 q2
    refine (HC1.out _ (row_since HA.out S2.out)).mono ?_
    rintro e w3 ⟨rfl, hb3⟩
    have S3 : Hid (Since w w3) := since_call S2.out hb3
    clear hb3 S2
    go_wp2
    go_ret
    exact ⟨rfl, S3.out.below⟩

theorem words_same {b c : Int} {n m : Nat} {f g : Nat → Int} (h1 : Right b n f) (h2 : Right c m g) (h : b = c) : n = m ∧ 0 < n := by
  have e1 := h1.2.2.1
  have e2 := h2.2.2.1
  have := h1.1
  omega
end Go.Proofs.Ytlgnplnmcdjbiaa
namespace Go.Proofs.Ytlgnplnmcdjbiaa
open Go.RowKit

set_option maxRecDepth 100000 in
set_option maxHeartbeats 4000000 in
theorem l02Xor_any (b c : Int) (sa sb : Option Addr) (n ka kb : Nat) (f g : Nat → Int) (w : World) (hn0 : 0 < n) (hn : n ≤ 1048576) (ha : Row w w.heap.size sa n f) (hb : Row w w.heap.size sb n g) :
    Calls Try.prog 119 #[.agg #[.int .i64 b, .slice sa n ka], .agg #[.int .i64 c, .slice sb n kb]] w fun e w' => NewVec w b n (fun i => bits .xor .i64 (f i) (g i)) e w' := by
  obtain ⟨b1, o1, rfl, hb1, hc1⟩ : ∃ bb off : Nat, sa = some ⟨bb, off, none⟩ ∧ bb < w.heap.size ∧ ∀ i, i < n → w.cell? ⟨bb, off + i, none⟩ = some (.int .i64 (f i)) := by
    rcases ha with h | h
    · omega
    · exact h
  obtain ⟨b2, o2, rfl, hb2, hc2⟩ : ∃ bb off : Nat, sb = some ⟨bb, off, none⟩ ∧ bb < w.heap.size ∧ ∀ i, i < n → w.cell? ⟨bb, off + i, none⟩ = some (.int .i64 (g i)) := by
    rcases hb with h | h
    · omega
    · exact h
  have HA : Hid (Row w w.heap.size (some ⟨b1, o1, none⟩) n f) := ha
  have HC1 : Hid (∀ i, i < n → w.cell? ⟨b1, o1 + i, none⟩ = some (.int .i64 (f i))) := hc1
  have HC2 : Hid (∀ i, i < n → w.cell? ⟨b2, o2 + i, none⟩ = some (.int .i64 (g i))) := hc2
  clear ha hb hc1 hc2
  go_enter Try.func119, Try.ntmps119
  go_wp2_with fail
  have q1 := boxing w 45 b (some ⟨b1, o1, none⟩) n ka
  generalize w.alloc (.cells #[.int .i64 b, .slice (some ⟨b1, o1, none⟩) n ka] 45) = v1 at *
  have q2 := boxing v1 45 c (some ⟨b2, o2, none⟩) n kb
  generalize v1.alloc (.cells #[.int .i64 c, .slice (some ⟨b2, o2, none⟩) n kb] 45) = v2 at *
  have q3 := boxing v2 45 0 none 0 0
  generalize v2.alloc (.cells #[.int .i64 0, .slice none 0 0] 45) = v3 at *
  have X1 : Hid (Boxed v3 w.heap.size 45 b (some ⟨b1, o1, none⟩) n ka) := (q1.2.1.kept q2.1 rfl).kept q3.1 rfl
  have X2 : Hid (Boxed v3 (w.heap.size + 1) 45 c (some ⟨b2, o2, none⟩) n kb) := by rw [← q1.2.2]; exact q2.2.1.kept q3.1 rfl
  have X3 : Hid (Boxed v3 (w.heap.size + 2) 45 0 none 0 0) := by rw [show w.heap.size + 2 = v2.heap.size by rw [q2.2.2, q1.2.2]]; exact q3.2.1
  have S3 : Hid (Since w v3) := since_call (since_call (since_call (since_refl _) q1.1) q2.1) q3.1
  have z3 : v3.heap.size = w.heap.size + 3 := by rw [q3.2.2, q2.2.2, q1.2.2]
  clear q1 q2 q3
  refine (copy_any b _ n ka f v3 hn0 hn (row_since HA.out S3.out)).mono ?_
  rintro e w4 ⟨s4, c4, rfl, hb4, ho4⟩
  obtain ⟨g4, rfl, hg1, ho⟩ : ∃ g, s4 = some ⟨g, 0, none⟩ ∧ v3.heap.size ≤ g ∧ Own w4 g n f := by
    rcases ho4 with h | h
    · omega
    · exact h
  have hg2 := ho.1
  have O4 : Hid (Own w4 g4 n f) := ho
  have Y1 : Hid (Boxed w4 w.heap.size 45 b (some ⟨b1, o1, none⟩) n ka) := X1.out.kept hb4 rfl
  have Y2 : Hid (Boxed w4 (w.heap.size + 1) 45 c (some ⟨b2, o2, none⟩) n kb) := X2.out.kept hb4 rfl
  have Y3 : Hid (Boxed w4 (w.heap.size + 2) 45 0 none 0 0) := X3.out.kept hb4 rfl
  have S4 : Hid (Since w w4) := since_call S3.out hb4
  unfold vecV
  clear hb4 ho4 ho X1 X2 X3 S3
  go_wp2
  have q5 := boxing w4 45 b (some ⟨g4, 0, none⟩) n c4
  generalize w4.alloc (.cells #[.int .i64 b, .slice (some ⟨g4, 0, none⟩) n c4] 45) = v5 at *
  obtain ⟨p5, hp5⟩ : ∃ p, p = w4.heap.size := ⟨_, rfl⟩
  rw [← hp5]
  have Y5 : Hid (Boxed v5 p5 45 b (some ⟨g4, 0, none⟩) n c4) := by rw [hp5]; exact q5.2.1
  have V1 : Hid (Boxed v5 w.heap.size 45 b (some ⟨b1, o1, none⟩) n ka) := Y1.out.kept q5.1 rfl
  have V2 : Hid (Boxed v5 (w.heap.size + 1) 45 c (some ⟨b2, o2, none⟩) n kb) := Y2.out.kept q5.1 rfl
  have V3 : Hid (Boxed v5 (w.heap.size + 2) 45 0 none 0 0) := Y3.out.kept q5.1 rfl
  have S5 : Hid (Since w v5) := since_call S4.out q5.1
  have O5 : Hid (Own v5 g4 n f) := O4.out.kept q5.1 hg2
  have hgp : g4 < p5 := by omega
  clear q5 Y1 Y2 Y3 S4 O4 hg2 hp5
  go_loopw [6] (fun i wr => ∃ k : Nat, k ≤ n ∧ i = .int .i64 (k : Int) ∧ Since w wr ∧ Boxed wr w.heap.size 45 b (some ⟨b1, o1, none⟩) n ka ∧ Boxed wr (w.heap.size + 1) 45 c (some ⟨b2, o2, none⟩) n kb ∧ Boxed wr (w.heap.size + 2) 45 0 none 0 0 ∧ Boxed wr p5 45 b (some ⟨g4, 0, none⟩) n c4 ∧ Own wr g4 n (fun i => if i < k then bits .xor .i64 (f i) (g i) else f i)) (fun i _ => n - (intOf i).toNat)
  case atStart => exact ⟨0, Nat.zero_le _, rfl, S5.out, V1.out, V2.out, V3.out, Y5.out, O5.out.congr (fun i _ => by simp)⟩
  case round =>
    obtain ⟨k, hk, rfl, hS, hx1, hx2, hx3, hx5, hown⟩ := hrel
    have HS : Hid (Since w wr) := hS
    have H1 : Hid (Boxed wr w.heap.size 45 b (some ⟨b1, o1, none⟩) n ka) := hx1
    have H2 : Hid (Boxed wr (w.heap.size + 1) 45 c (some ⟨b2, o2, none⟩) n kb) := hx2
    have H3 : Hid (Boxed wr (w.heap.size + 2) 45 0 none 0 0) := hx3
    have H5 : Hid (Boxed wr p5 45 b (some ⟨g4, 0, none⟩) n c4) := hx5
    have HW : Hid (Own wr g4 n (fun i => if i < k then bits .xor .i64 (f i) (g i) else f i)) := hown
    obtain ⟨ca0, ca1⟩ := hx1.cells
    obtain ⟨cb0, cb1⟩ := hx2.cells
    obtain ⟨cc0, cc1, cc2, cc3⟩ := hx3.four
    obtain ⟨cd0, cd1⟩ := hx5.cells
    by_cases hkl : k < n
    · have cz : wr.cell? ⟨b1, o1 + k, none⟩ = some (.int .i64 (f k)) := by rw [hS.below.cell (p := ⟨b1, o1 + k, none⟩) hb1]; exact HC1.out k hkl
      have cy : wr.cell? ⟨b2, o2 + k, none⟩ = some (.int .i64 (g k)) := by rw [hS.below.cell (p := ⟨b2, o2 + k, none⟩) hb2]; exact HC2.out k hkl
      have cw := hown.2.1 k hkl
      have cf := hown.2.2 k hkl
      have hsz := hown.1
      clear hS hx1 hx2 hx3 hx5 hown
      have hki : (k : Int) < (n : Int) := by omega
      have hk0 : (0 : Int) ≤ (k : Int) := by omega
      go_wp2
      go_region
      all_goals
        go_wp2
        go_roundw
        case rel => exact ⟨k + 1, by omega, by go_num, since_drew (since_set HS.out (by show w.heap.size ≤ g4; omega)), (H1.out.setOther _ _ (by show g4 ≠ w.heap.size; omega)).drew, (H2.out.setOther _ _ (by show g4 ≠ w.heap.size + 1; omega)).drew, (H3.out.setOther _ _ (by show g4 ≠ w.heap.size + 2; omega)).drew, (H5.out.setOther _ _ (by show g4 ≠ p5; omega)).drew, ((HW.out.set hkl (bits .xor .i64 (f k) (g k))).congr (fun i hi => by
          by_cases e : i = k
          · subst e; simp
          · simp only [if_neg e]
            by_cases e2 : i < k
            · rw [if_pos e2, if_pos (by omega)]
            · rw [if_neg e2, if_neg (by omega)])).drew⟩
        case measure => simp [intOf]; omega
    · have hki : ¬ (k : Int) < (n : Int) := by omega
      have lb := hx3.lt
      clear hS hx1 hx2 hx3 hx5 hown
      go_wp2
      refine bodyPost_ret (v := vecV b (some ⟨g4, 0, none⟩) n c4) (by simp [results, Try.results119, go_sem, vecV, cc0, cc1]) rfl ?_
      exact ⟨_, _, rfl, (since_set (since_set HS.out (by show w.heap.size ≤ w.heap.size + 2; omega)) (by show w.heap.size ≤ w.heap.size + 2; omega)).below, Or.inr ⟨g4, rfl, by omega, ((HW.out.congr (fun i hi => if_pos (by omega))).setOther _ _ (by show w.heap.size + 2 ≠ g4; omega)).setOther _ _ (by show w.heap.size + 2 ≠ g4; omega)⟩⟩
end Go.Proofs.Ytlgnplnmcdjbiaa
namespace Go.Proofs.Ytlgnplnmcdjbiaa
open Go.RowKit

theorem cut_range {b : Int} {n : Nat} {f : Nat → Int} (h : ∀ i, i < n → 0 ≤ f i ∧ f i ≤ 4294967295) : ∀ i, i < n → 0 ≤ cutF b n f i ∧ cutF b n f i ≤ 4294967295 := by
  intro i hi
  have := h i hi
  unfold cutF
  split
  · have hp : (0 : Int) < 2 ^ (b % 32).toNat := Int.pow_pos (by decide)
    have h1 := Int.emod_nonneg (f i) (Int.ne_of_gt hp)
    have h2 : f i % 2 ^ (b % 32).toNat ≤ f i := by
      have h3 := Int.emod_add_mul_ediv (f i) (2 ^ (b % 32).toNat)
      have h4 : 0 ≤ 2 ^ (b % 32).toNat * (f i / 2 ^ (b % 32).toNat) := Int.mul_nonneg (Int.le_of_lt hp) (Int.ediv_nonneg this.1 (Int.le_of_lt hp))
      omega
    omega
  · omega
set_option maxRecDepth 100000 in
set_option maxHeartbeats 4000000 in
theorem sub_any (b : Int) (sa sb : Option Addr) (n ka kb : Nat) (f g : Nat → Int) (w : World) (hbb : 1 ≤ b) (hbc : b ≤ 320) (hf : ∀ i, i < n → 0 ≤ f i ∧ f i ≤ 4294967295) (hg : ∀ i, i < n → 0 ≤ g i ∧ g i ≤ 4294967295) (hn0 : 0 < n) (hn : n ≤ 1048576) (ha : Row w w.heap.size sa n f) (hb : Row w w.heap.size sb n g) :
    Calls Try.prog 120 #[.agg #[.int .i64 b, .slice sa n ka], .agg #[.int .i64 b, .slice sb n kb]] w fun e w' => NewVec w b n (cutF b n (sumF 1 f (cutF b n (notF g)))) e w' := by
  have HA : Hid (Row w w.heap.size sa n f) := ha
  have HB : Hid (Row w w.heap.size sb n g) := hb
  have HF : Hid (∀ i, i < n → 0 ≤ f i ∧ f i ≤ 4294967295) := hf
  have HGG : Hid (∀ i, i < n → 0 ≤ g i ∧ g i ≤ 4294967295) := hg
  have HNG : Hid (∀ i, i < n → 0 ≤ cutF b n (notF g) i ∧ cutF b n (notF g) i ≤ 4294967295) := cut_range (fun i hi => by have := hg i hi; unfold notF; omega)
  clear ha hb hf hg
  go_enter Try.func120, Try.ntmps120
  go_wp2_with fail
  have q1 := boxing w 45 b sa n ka
  generalize w.alloc (.cells #[.int .i64 b, .slice sa n ka] 45) = v1 at *
  have q2 := boxing v1 45 b sb n kb
  generalize v1.alloc (.cells #[.int .i64 b, .slice sb n kb] 45) = v2 at *
  have q3 := boxing v2 45 0 none 0 0
  generalize v2.alloc (.cells #[.int .i64 0, .slice none 0 0] 45) = v3 at *
  have X1 : Hid (Boxed v3 w.heap.size 45 b sa n ka) := (q1.2.1.kept q2.1 rfl).kept q3.1 rfl
  have X2 : Hid (Boxed v3 (w.heap.size + 1) 45 b sb n kb) := by rw [← q1.2.2]; exact q2.2.1.kept q3.1 rfl
  have X3 : Hid (Boxed v3 (w.heap.size + 2) 45 0 none 0 0) := by rw [show w.heap.size + 2 = v2.heap.size by rw [q2.2.2, q1.2.2]]; exact q3.2.1
  have S3 : Hid (Since w v3) := since_call (since_call (since_call (since_refl _) q1.1) q2.1) q3.1
  have z3 : v3.heap.size = w.heap.size + 3 := by rw [q3.2.2, q2.2.2, q1.2.2]
  have RA : Hid (Row v3 v3.heap.size sa n f) := row_since HA.out S3.out
  have RB : Hid (Row v3 v3.heap.size sb n g) := row_since HB.out S3.out
  clear q1 q2 q3
  obtain ⟨ca0, ca1⟩ := X1.out.cells
  obtain ⟨cb0, cb1⟩ := X2.out.cells
  have l1 := X1.out.lt
  have l2 := X2.out.lt
  have l3 := X3.out.lt
  go_region_with (first
    | (go_at_call 118; refine (not_any b sb n kb g _ hbb hbc HGG.out hn0 hn (row_since RB.out (by exact since_drew (since_refl _)))).mono ?_; rintro e w' ⟨s, c, rfl, hb, ho⟩; have hS : Since v3 w' := since_call (since_drew (since_refl _)) hb; obtain ⟨ca0, ca1⟩ := (X1.out.since hS).cells; have l1 := (X1.out.since hS).lt; unfold vecV)
    | (go_at_call 185; refine (add_any b b sa _ n ka _ f (cutF b n (notF g)) 1 _ hbb hbc (by omega) (by omega) HF.out HNG.out hn0 hn (row_since RA.out (by assumption)) ((by assumption : OwnS _ _ _ _ _).row)).mono ?_; rintro e w'' ⟨sx, cx, rfl, hb2, ho2⟩; have hS2 : Since v3 w'' := (by refine since_call ?_ hb2; assumption); obtain ⟨cc0, cc1, cc2, cc3⟩ := (X3.out.since hS2).four; have l3 := (X3.out.since hS2).lt; unfold vecV))
  all_goals
    have SW : Hid (Since w w'') := since_call S3.out hS2.below
    have HO : Hid (OwnS w'' w'.heap.size sx n (cutF b n (sumF 1 f (cutF b n (notF g))))) := ho2
    have hz : v3.heap.size ≤ w'.heap.size := hS.size
    clear hb2 ho2 hb ho
    go_wp2
    refine bodyPost_ret (v := vecV b sx n cx) (by simp [results, Try.results120, go_sem, vecV, cc0, cc1]) rfl ?_
    refine ⟨_, _, rfl, (since_set (since_set SW.out (by show w.heap.size ≤ w.heap.size + 2; omega)) (by show w.heap.size ≤ w.heap.size + 2; omega)).below, ?_⟩
    rcases HO.out with h | ⟨g5, h1, h2, h3⟩
    · exact Or.inl h
    · exact Or.inr ⟨g5, h1, by omega, (h3.setOther _ _ (by show w.heap.size + 2 ≠ g5; omega)).setOther _ _ (by show w.heap.size + 2 ≠ g5; omega)⟩
end Go.Proofs.Ytlgnplnmcdjbiaa
