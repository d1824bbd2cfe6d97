/- What is proved here: the program makes a walk that stands where each begins, tells where it stands, and tells where each begins; nothing that was there turns. -/
import Derived.Test.YthnnenbpbkmbhaaQMRowOfW
import Derived.Test.YthnnenbpbkmbhaaQOnceW
import Derived.Deep.RegionHeld3
namespace Go.Proofs.Ythnnenbpbkmbhaa
open Go.RowKit

/-- Where each begins. -/
def startB (f : Nat → Cel) (n : Nat) : Nat → Bool := cloB (skipB f n) (fun j => decide (0 = j))
theorem start_le (f : Nat → Cel) (n : Nat) : ∀ j, n < j → startB f n j = false := fun j hj => clo_le (skip_le f n) (fun j hj => decide_eq_false (by omega)) j hj
/-- A walk in its block. -/
structure WBox (W : World) (q r be at' : Nat) : Prop where
  c0 : W.cell? ⟨q, 0, none⟩ = some (.pointer (some ⟨r, 0, none⟩))
  c1 : W.cell? ⟨q, 1, none⟩ = some (.int .u64 (be : Int))
  c2 : W.cell? ⟨q, 2, none⟩ = some (.int .u64 (at' : Int))
  f2 : W.frozen? ⟨q, 2, none⟩ = false
  lt : q < W.heap.size
theorem WBox.kept {W W' : World} {B q r be a : Nat} (h : WBox W q r be a) (hb : Below B W W') (hB : q < B) : WBox W' q r be a :=
  ⟨by rw [hb.cell (p := ⟨q, 0, none⟩) hB]; exact h.c0, by rw [hb.cell (p := ⟨q, 1, none⟩) hB]; exact h.c1, by rw [hb.cell (p := ⟨q, 2, none⟩) hB]; exact h.c2, by rw [hb.frozen (p := ⟨q, 2, none⟩) hB]; exact h.f2, Nat.lt_of_lt_of_le h.lt hb.size⟩
theorem WBox.grown {W W' : World} {g q r be a : Nat} (h : WBox W q r be a) (hg : W.grownBy W' (some g)) (hne : q ≠ g) : WBox W' q r be a := by
  have hb := hg.block q h.lt (fun e => hne (by injection e))
  refine ⟨?_, ?_, ?_, ?_, Nat.lt_of_lt_of_le h.lt hg.size⟩
  · have := h.c0
    simpa [World.cell?, hb] using this
  · have := h.c1
    simpa [World.cell?, hb] using this
  · have := h.c2
    simpa [World.cell?, hb] using this
  · have := h.f2
    simpa [World.frozen?, hb] using this
theorem wbox_new (W : World) (r be a : Nat) (t : TypeId) : WBox (W.alloc (.cells #[.pointer (some ⟨r, 0, none⟩), .int .u64 (be : Int), .int .u64 (a : Int)] t)) W.heap.size r be a :=
  ⟨by simp, by simp, by simp, frozen_of_row _ _ _ _ _ (heap_alloc_new W _), by simp⟩
/-- A walk, its row and its masks: three blocks. -/
structure Walks (W : World) (q r b : Nat) (sa : Option Addr) (n cap : Nat) (f : Nat → Cel) (be at' sk lo fi la bl st fin : Nat) : Prop where
  w : WBox W q r be at'
  m : MRow W r b fi la bl st fin
  k : Ready W b sa n cap sk lo f
  ne : b < r ∧ r < q
  ok : MasksOk (skipB f n) n fi la bl st fin
  sk : IsBits sk (behind (fun i => (f i).k) n)
  lo : IsBits lo (behind (fun i => (f i).o) n)
  be : IsBits be (startB f n)
/-- A walk that stands at some places. -/
def WalkAt (W : World) (lo : Nat) (q : Nat) (sa : Option Addr) (n cap : Nat) (f : Nat → Cel) (P : Nat → Bool) : Prop :=
  ∃ r b be a sk l fi la bl st fin : Nat, Walks W q r b sa n cap f be a sk l fi la bl st fin ∧ lo ≤ b ∧ IsBits a P
theorem walkOf_no (sa : Option Addr) (n cap : Nat) (f : Nat → Cel) (w : World) (hn : n ≤ maxLen) (hr : CRow w w.heap.size sa n f) (hc : ∀ i, i < n → (f i).c.size ≤ maxLen) (h : ¬ CellsOk n f) :
    Calls Try.prog 114 #[.slice sa n cap] w fun e w' => e = .returned (.pointer none) ∧ Below w.heap.size w w' := by
  have C := mrowOf_no sa n cap f w hn hr hc h
  clear hn hr hc h
  go_enter Try.func114, Try.ntmps114
  go_wp2_with fail
  refine C.mono ?_
  rintro e w1 ⟨rfl, hb1⟩
  have B1 : Hid (Below w.heap.size w w1) := hb1
  clear hb1 C
  go_wp2_with fail
  go_ret
  exact ⟨rfl, B1.out⟩
set_option maxRecDepth 100000 in
set_option maxHeartbeats 4000000 in
theorem walkOf_yes (sa : Option Addr) (n cap : Nat) (f : Nat → Cel) (w : World) (hn : n ≤ maxLen) (hr : CRow w w.heap.size sa n f) (hc : ∀ i, i < n → (f i).c.size ≤ maxLen) (h : CellsOk n f) :
    Calls Try.prog 114 #[.slice sa n cap] w fun e w' => ∃ q : Nat, e = .returned (.pointer (some ⟨q, 0, none⟩)) ∧ Below w.heap.size w w' ∧ WalkAt w' w.heap.size q sa n cap f (startB f n) := by
  have C := mrowOf_yes sa n cap f w hn hr hc h
  have hn60 := h.2.1
  clear hn hr hc h
  go_enter Try.func114, Try.ntmps114
  go_wp2_with fail
  refine C.mono ?_
  rintro e w1 ⟨r, b, sk, lo, fi, la, bl, st, fin, rfl, hbl, hbr, hb1, hsk, hlo, hk, hm, hok⟩
  have S1 : Hid (Since w w1) := ⟨hb1⟩
  have F1 : Hid (w.heap.size ≤ b ∧ b < r ∧ IsBits sk (behind (fun i => (f i).k) n) ∧ IsBits lo (behind (fun i => (f i).o) n) ∧ KRow w1 b sa n cap sk lo 0 0 (fun _ => 0) ∧ MRow w1 r b fi la bl st fin ∧ MasksOk (skipB f n) n fi la bl st fin) := ⟨hbl, hbr, hsk, hlo, hk, hm, hok⟩
  have m4 := hm.c4
  have ml := hm.lt
  clear C hbl hbr hb1 hsk hlo hk hm hok
  go_wp2_with fail
  refine (once_any r b st fi la bl st fin n (skipB f n) (fun j => decide (0 = j)) _ hn60 F1.out.2.2.2.2.2.1 F1.out.2.2.2.2.2.2 F1.out.2.2.2.2.2.2.s (fun j hj => decide_eq_false (by omega))).mono ?_
  rintro e w2 ⟨be, rfl, hbe, hb2⟩
  have S2 : Hid (Since w w2) := since_call S1.out hb2
  have F2 : Hid (w.heap.size ≤ b ∧ b < r ∧ IsBits sk (behind (fun i => (f i).k) n) ∧ IsBits lo (behind (fun i => (f i).o) n) ∧ KRow w2 b sa n cap sk lo 0 0 (fun _ => 0) ∧ MRow w2 r b fi la bl st fin ∧ MasksOk (skipB f n) n fi la bl st fin ∧ IsBits be (startB f n) ∧ r < w2.heap.size) := ⟨F1.out.1, F1.out.2.1, F1.out.2.2.1, F1.out.2.2.2.1, F1.out.2.2.2.2.1.kept hb2 F1.out.2.2.2.2.1.lt, F1.out.2.2.2.2.2.1.kept hb2 ml, F1.out.2.2.2.2.2.2, hbe, (F1.out.2.2.2.2.2.1.kept hb2 ml).lt⟩
  clear hb2 hbe S1 F1 m4 ml
  go_wp2_with fail
  go_ret
  obtain ⟨g1, g2, g3, g4, g5, g6, g7, g8, g9⟩ := F2.out
  have hal : Below w2.heap.size w2 (w2.alloc (.cells #[.pointer (some ⟨r, 0, none⟩), .int .u64 (be : Int), .int .u64 (be : Int)] 149)) := (Below.refl _ _).alloc (Nat.le_refl _) _
  exact ⟨w2.heap.size, rfl, (since_call S2.out hal).below, r, b, be, be, sk, lo, fi, la, bl, st, fin, ⟨wbox_new w2 r be be _, g6.kept hal g9, Or.inl (g5.kept hal g5.lt), ⟨g2, g9⟩, g7, g3, g4, g8⟩, g1, g8⟩
set_option maxRecDepth 100000 in
set_option maxHeartbeats 4000000 in
theorem vecAt_any (q : Nat) (sa : Option Addr) (n cap m lo x : Nat) (f : Nat → Cel) (P : Nat → Bool) (w : World) (hn : n ≤ 60) (hm : m = (n + 1 + 31) / 32) (hw : WalkAt w lo q sa n cap f P) (hx : IsBits x P) :
    Calls Try.prog 115 #[.pointer (some ⟨q, 0, none⟩)] w fun e w' => NewVec w ((n : Int) + 1) m (wordsN x) e w' := by
  obtain ⟨r, b, be, a, sk, l, fi, la, bl, st, fin, ⟨h1, h2, h3, h4, h5, h6, h7, h8⟩, h9, h10⟩ := hw
  obtain rfl := hx.uniq h10
  have k0 : w.cell? ⟨b, 0, none⟩ = some (.slice sa n cap) := by
    rcases h3 with h | ⟨tab, h, _⟩
    · exact h.c0
    · exact h.c0
  have kl := h3.cells.2.2
  obtain ⟨c0, c1, c2, f2, wl⟩ := h1
  have r0 := h2.c0
  have rl := h2.lt
  have q0 := boxing w 26 0 none 0 0
  have HP : Hid (∀ W, Calls Try.prog 82 #[.int .u64 (x : Int), .int .i64 (n : Int)] W fun e w' => NewVec W ((n : Int) + 1) m (wordsN x) e w') := fun W => pvec_any x n m W hx.lt hn hm
  have hb0 := q0.1
  have wq := wl
  have wr := rl
  have wb := kl
  have d0 := (hb0.cell (p := ⟨q, 0, none⟩) wl).trans c0
  have d2 := (hb0.cell (p := ⟨q, 2, none⟩) wl).trans c2
  have s0 := (hb0.cell (p := ⟨r, 0, none⟩) rl).trans r0
  have t0 := (hb0.cell (p := ⟨b, 0, none⟩) kl).trans k0
  have wl' := Nat.lt_of_lt_of_le wl hb0.size
  have rl' := Nat.lt_of_lt_of_le rl hb0.size
  have kl' := Nat.lt_of_lt_of_le kl hb0.size
  have X0 : Hid (Boxed (w.alloc (.cells #[.int .i64 0, .slice none 0 0] 26)) w.heap.size 26 0 none 0 0) := q0.2.1
  have S0 : Hid (Since w (w.alloc (.cells #[.int .i64 0, .slice none 0 0] 26))) := ⟨hb0⟩
  have hz := q0.2.2
  clear h2 h3 h4 h5 h6 h7 h8 h9 h10 hx hm c0 c1 c2 f2 r0 k0 wl rl kl hb0 q0
  go_enter Try.func115, Try.ntmps115
  go_wp2_with fail
  generalize w.alloc (.cells #[.int .i64 0, .slice none 0 0] 26) = v0 at *
  obtain ⟨x0, x1, xf0, xf1⟩ := X0.out.four
  have xl := X0.out.lt
  have hqn : w.heap.size ≠ q := Nat.ne_of_gt wq
  have hrn : w.heap.size ≠ r := Nat.ne_of_gt wr
  have hbn : w.heap.size ≠ b := Nat.ne_of_gt wb
  have bd : Below v0.heap.size v0 v0.drew := ⟨rfl, rfl, rfl, Nat.le_refl _, fun _ _ => rfl⟩
  go_region_held3 (fun W => W.cell? ⟨q, 0, none⟩ = some (.pointer (some ⟨r, 0, none⟩)) ∧ W.cell? ⟨q, 2, none⟩ = some (.int .u64 (x : Int)) ∧ W.cell? ⟨r, 0, none⟩ = some (.pointer (some ⟨b, 0, none⟩)) ∧ W.cell? ⟨b, 0, none⟩ = some (.slice sa n cap)) (go_keep) (first | (go_at_call 82; (with_reducible refine (HP.out _).mono ?_); rintro e w2 ⟨s2, c2, rfl, hb, ho⟩; unfold vecV; have hb' := bd.trans hb; obtain ⟨a0, a1, af0, af1⟩ := (X0.out.kept hb' rfl).four; have al := (X0.out.kept hb' rfl).lt; have d0' := (hb'.cell (p := ⟨q, 0, none⟩) wl').trans d0; have d2' := (hb'.cell (p := ⟨q, 2, none⟩) wl').trans d2; have s0' := (hb'.cell (p := ⟨r, 0, none⟩) rl').trans s0; have t0' := (hb'.cell (p := ⟨b, 0, none⟩) kl').trans t0; have wl2 := Nat.lt_of_lt_of_le wl' hb'.size; have rl2 := Nat.lt_of_lt_of_le rl' hb'.size; have kl2 := Nat.lt_of_lt_of_le kl' hb'.size; have S2 : Hid (Since w w2) := since_call S0.out hb'; have O2 : Hid (OwnS w2 v0.heap.size s2 m (wordsN x)) := ho; clear hb ho hb'))
  all_goals
    go_wp2_with fail
    refine bodyPost_ret (v := vecV ((n : Int) + 1) s2 m c2) (by simp [results, Try.results115, go_sem, vecV, a0, a1]) rfl ?_
    refine ⟨_, _, rfl, (since_set (since_set S2.out (by show w.heap.size ≤ w.heap.size; omega)) (by show w.heap.size ≤ w.heap.size; omega)).below, ?_⟩
    rcases O2.out with h | ⟨g5, h1, h2, h3⟩
    · exact Or.inl h
    · exact Or.inr ⟨g5, h1, by omega, (h3.setOther _ _ (by show w.heap.size ≠ g5; omega)).setOther _ _ (by show w.heap.size ≠ g5; omega)⟩
theorem implStart_no (sa : Option Addr) (n cap : Nat) (f : Nat → Cel) (w : World) (hn : n ≤ maxLen) (hr : CRow w w.heap.size sa n f) (hc : ∀ i, i < n → (f i).c.size ≤ maxLen) (h : ¬ CellsOk n f) :
    Calls Try.prog 42 #[.slice sa n cap] w fun e w' => NewVec w 0 0 (fun _ => 0) e w' := by
  have q0 := boxing w 26 0 none 0 0
  have C := walkOf_no sa n cap f (w.alloc (.cells #[.int .i64 0, .slice none 0 0] 26)) hn ((hr.kept q0.1).up q0.1.size) hc h
  clear hn hr hc h
  go_enter Try.func42, Try.ntmps42
  go_wp2_with fail
  generalize w.alloc (.cells #[.int .i64 0, .slice none 0 0] 26) = v0 at *
  refine C.mono ?_
  rintro e w1 ⟨rfl, hb1⟩
  obtain ⟨a0, a1, a2, a3⟩ := (q0.2.1.kept hb1 rfl).four
  have S1 : Hid (Since w w1) := since_call (since_call (since_refl _) q0.1) hb1
  have xl := (q0.2.1.kept hb1 rfl).lt
  clear C hb1 q0
  go_wp2_with fail
  refine bodyPost_ret (v := vecV 0 none 0 0) (by simp [results, Try.results42, go_sem, vecV, a0, a1]) rfl ?_
  exact ⟨_, _, rfl, (since_set (since_set S1.out (by show w.heap.size ≤ w.heap.size; omega)) (by show w.heap.size ≤ w.heap.size; omega)).below, Or.inl rfl⟩
theorem implStart_yes (sa : Option Addr) (n cap m x : Nat) (f : Nat → Cel) (w : World) (hn : n ≤ maxLen) (hr : CRow w w.heap.size sa n f) (hc : ∀ i, i < n → (f i).c.size ≤ maxLen) (h : CellsOk n f) (hm : m = (n + 1 + 31) / 32) (hx : IsBits x (startB f n)) :
    Calls Try.prog 42 #[.slice sa n cap] w fun e w' => NewVec w ((n : Int) + 1) m (wordsN x) e w' := by
  have q0 := boxing w 26 0 none 0 0
  have C := walkOf_yes sa n cap f (w.alloc (.cells #[.int .i64 0, .slice none 0 0] 26)) hn ((hr.kept q0.1).up q0.1.size) hc h
  have hn60 := h.2.1
  have HX : Hid (IsBits x (startB f n)) := hx
  have HM : Hid (m = (n + 1 + 31) / 32) := hm
  clear hn hr hc h hx hm
  go_enter Try.func42, Try.ntmps42
  go_wp2_with fail
  generalize w.alloc (.cells #[.int .i64 0, .slice none 0 0] 26) = v0 at *
  refine C.mono ?_
  rintro e w1 ⟨q, rfl, hb1, hw1⟩
  have X1 : Hid (Boxed w1 w.heap.size 26 0 none 0 0) := q0.2.1.kept hb1 rfl
  have S1 : Hid (Since w w1) := since_call (since_call (since_refl _) q0.1) hb1
  have W1 : Hid (WalkAt w1 v0.heap.size q sa n cap f (startB f n)) := hw1
  clear C hb1 q0 hw1
  go_wp2_with fail
  refine (vecAt_any q sa n cap m _ x f _ w1 hn60 HM.out W1.out HX.out).mono ?_
  rintro e w3 ⟨s3, c3, rfl, hb3, ho3⟩
  unfold vecV
  obtain ⟨a0, a1, a2, a3⟩ := (X1.out.kept hb3 rfl).four
  have S3 : Hid (Since w w3) := since_call S1.out hb3
  have O3 : Hid (OwnS w3 w1.heap.size s3 m (wordsN x)) := ho3
  have l3 : w.heap.size < w3.heap.size := by have := hb3.size; have := X1.out.lt; omega
  have l2 : w.heap.size < w1.heap.size := X1.out.lt
  clear hb3 ho3
  go_wp2_with fail
  refine bodyPost_ret (v := vecV ((n : Int) + 1) s3 m c3) (by simp [results, Try.results42, go_sem, vecV, a0, a1]) rfl ?_
  refine ⟨_, _, rfl, (since_set (since_set S3.out (by show w.heap.size ≤ w.heap.size; omega)) (by show w.heap.size ≤ w.heap.size; omega)).below, ?_⟩
  rcases O3.out with h | ⟨g5, h1, h2, h3⟩
  · exact Or.inl h
  · exact Or.inr ⟨g5, h1, by omega, (h3.setOther _ _ (by show w.heap.size ≠ g5; omega)).setOther _ _ (by show w.heap.size ≠ g5; omega)⟩
end Go.Proofs.Ythnnenbpbkmbhaa
