/- What is proved here: five vectors and one that FnClose draws. -/
import Derived.Test.YtlgnplnmcdjbiaaQImplMaskWToDrawClEW
namespace Go.Proofs.Ytlgnplnmcdjbiaa
open Go.RowKit

theorem row5 {W : World} {s0 s1 s2 s3 s4 : Option Addr} {n0 n1 n2 n3 n4 : Nat} {f0 f1 f2 f3 f4 : Nat → Int} (h0 : Row W W.heap.size s0 n0 f0) (h1 : Row W W.heap.size s1 n1 f1) (h2 : Row W W.heap.size s2 n2 f2) (h3 : Row W W.heap.size s3 n3 f3) (h4 : Row W W.heap.size s4 n4 f4) : M5Row W (five s0 s1 s2 s3 s4) (five n0 n1 n2 n3 n4) (five f0 f1 f2 f3 f4) := fun i hi => by
  have hc : i = 0 ∨ i = 1 ∨ i = 2 ∨ i = 3 ∨ i = 4 := by omega
  rcases hc with rfl | rfl | rfl | rfl | rfl <;> assumption
theorem five_le {a0 a1 a2 a3 a4 k : Nat} (h0 : a0 ≤ k) (h1 : a1 ≤ k) (h2 : a2 ≤ k) (h3 : a3 ≤ k) (h4 : a4 ≤ k) : ∀ i, i < 5 → five a0 a1 a2 a3 a4 i ≤ k := fun i hi => by
  have hc : i = 0 ∨ i = 1 ∨ i = 2 ∨ i = 3 ∨ i = 4 := by omega
  rcases hc with rfl | rfl | rfl | rfl | rfl <;> assumption
theorem OnlyM.wide {W W' : World} {lo hi lo' hi' : Nat} (h : OnlyM W W' lo hi) (hl : lo' ≤ lo) (hh : hi ≤ hi') : OnlyM W W' lo' hi' := ⟨h.os, h.tape, h.output, h.size, fun k hk hd => h.block k hk (by omega)⟩
theorem only_r2 {W W' : World} {r i : Nat} {v : Value} (h : OnlyM W W' r (r + 2)) : OnlyM W (W'.setCell ⟨r, i, none⟩ v) r (r + 2) := h.setM (Nat.le_refl _) (by show r < r + 2; omega)
theorem only_r3 {W W' : World} {r i : Nat} {v : Value} (h : OnlyM W W' r (r + 2)) : OnlyM W (W'.setCell ⟨r + 1, i, none⟩ v) r (r + 2) := h.setM (by show r ≤ r + 1; omega) (by show r + 1 < r + 2; omega)
theorem only_dr {W W' : World} {r : Nat} (h : OnlyM W W' r (r + 2)) : OnlyM W W'.drew r (r + 2) := ⟨h.os, h.tape, h.output, h.size, h.block⟩
/-- A row in blocks of a stretch. -/
def Mid (w : World) (lo hi : Nat) (sa : Option Addr) (n : Nat) (f : Nat → Int) : Prop := n = 0 ∨ ∃ bb off : Nat, sa = some ⟨bb, off, none⟩ ∧ lo ≤ bb ∧ bb < hi ∧ bb < w.heap.size ∧ ∀ i, i < n → w.cell? ⟨bb, off + i, none⟩ = some (.int .i64 (f i))
theorem FarV.mid {w : World} {lo n : Nat} {s : Option Addr} {f : Nat → Int} (h : FarV w lo s n f) : Mid w lo w.heap.size s n f := by
  rcases h with h | ⟨bb, off, h1, h2, h3, h4⟩
  · exact Or.inl h
  · exact Or.inr ⟨bb, off, h1, h2, h3, h3, h4⟩
theorem Mid.row {w : World} {lo hi n : Nat} {s : Option Addr} {f : Nat → Int} (h : Mid w lo hi s n f) : Row w w.heap.size s n f := by
  rcases h with h | ⟨bb, off, h1, _, _, h3, h4⟩
  · exact Or.inl h
  · exact Or.inr ⟨bb, off, h1, h3, h4⟩
theorem Mid.onlyM {W W' : World} {lo hi a z n : Nat} {s : Option Addr} {f : Nat → Int} (h : Mid W lo hi s n f) (ho : OnlyM W W' a z) (hd : z ≤ lo ∨ hi ≤ a) : Mid W' lo hi s n f := by
  rcases h with h | ⟨bb, off, h1, h2, h2', h3, h4⟩
  · exact Or.inl h
  · have hb := ho.block bb h3 (by omega)
    exact Or.inr ⟨bb, off, h1, h2, h2', Nat.lt_of_lt_of_le h3 ho.size, fun i hi => by have := h4 i hi; simpa [World.cell?, hb] using this⟩
theorem Mid.keptC {W W' : World} {lo hi n : Nat} {s : Option Addr} {f : Nat → Int} (h : Mid W lo hi s n f) (hb : Below W.heap.size W W') : Mid W' lo hi s n f := h.onlyM (OnlyM.ofBelow hb (lo := lo) (hi := lo)) (Or.inl (Nat.le_refl _))
set_option maxRecDepth 100000 in
set_option maxHeartbeats 3000000 in
theorem drawCloseBy_any (w : World) (sa : Option Addr) (len cap : Nat) (hl : len ≤ 1048576) (hby : Bytes8 w w.heap.size sa len) :
    Calls Try.prog 31 #[.slice sa len cap] w fun e w' => FiveAndOne e w' ∧ Below w.heap.size w w' := by
  have q0 := tboxing w
  have q1 := boxing (w.alloc (.cells #[.int .i64 0, .slice none 0 0, .int .i64 0, .slice none 0 0, .int .i64 0, .slice none 0 0, .int .i64 0, .slice none 0 0, .int .i64 0, .slice none 0 0] 50)) 45 0 none 0 0
  obtain ⟨v0, hv0⟩ : ∃ v, (w.alloc (.cells #[.int .i64 0, .slice none 0 0, .int .i64 0, .slice none 0 0, .int .i64 0, .slice none 0 0, .int .i64 0, .slice none 0 0, .int .i64 0, .slice none 0 0] 50)).alloc (.cells #[.int .i64 0, .slice none 0 0] 45) = v := ⟨_, rfl⟩
  have z1 : (w.alloc (.cells #[.int .i64 0, .slice none 0 0, .int .i64 0, .slice none 0 0, .int .i64 0, .slice none 0 0, .int .i64 0, .slice none 0 0, .int .i64 0, .slice none 0 0] 50)).heap.size = w.heap.size + 1 := by simp
  rw [hv0] at q1
  have z2 : v0.heap.size = w.heap.size + 2 := by rw [q1.2.2, z1]
  have B0 : Hid (Below w.heap.size w v0) := q0.1.trans (q1.1.mono q0.1.size)
  have Z0 : Hid (TBox v0 w.heap.size (.int .i64 0) (.slice none 0 0) (.int .i64 0) (.slice none 0 0) (.int .i64 0) (.slice none 0 0) (.int .i64 0) (.slice none 0 0) (.int .i64 0) (.slice none 0 0)) := q0.2.1.kept q1.1 rfl
  have X0 : Hid (Boxed v0 (w.heap.size + 1) 45 0 none 0 0) := by have h9 := q1.2.1; rw [z1] at h9; exact h9
  have HY : Hid (Bytes8 v0 v0.heap.size sa len) := by
    have h1 : Bytes8 v0 w.heap.size sa len := hby.kept (row := none) ⟨B0.out.os, B0.out.tape, B0.out.output, B0.out.size, fun k hk _ => B0.out.block k hk⟩ (fun k hk => by cases hk)
    rcases h1 with h | ⟨bb, off, zs, h1, h2, h3⟩
    · exact Or.inl h
    · exact Or.inr ⟨bb, off, zs, h1, Nat.lt_of_lt_of_le h2 B0.out.size, h3⟩
  have HZ2 : Hid (v0.heap.size = w.heap.size + 2) := z2
  clear hby q0 q1 z1 z2
  go_enter Try.func31, Try.ntmps31
  go_wp2_with fail
  try rw [hv0]
  refine (source_any v0 sa len cap hl HY.out).mono ?_
  clear hv0
  rintro e w1 ⟨rfl, hb1, hS1⟩
  have B1 : Hid (Below w.heap.size w w1) := B0.out.trans (hb1.mono B0.out.size)
  have Z1 : Hid (TBox w1 w.heap.size (.int .i64 0) (.slice none 0 0) (.int .i64 0) (.slice none 0 0) (.int .i64 0) (.slice none 0 0) (.int .i64 0) (.slice none 0 0) (.int .i64 0) (.slice none 0 0)) := Z0.out.kept hb1 rfl
  have X1 : Hid (Boxed w1 (w.heap.size + 1) 45 0 none 0 0) := X0.out.kept hb1 rfl
  have S1 : Hid (Src w1 v0.heap.size sa len cap) := hS1
  clear hb1 hS1 HY B0 Z0 X0
  generalize v0.heap.size = b at *
  go_wp2_with fail
  refine (l07Some_any w1 b sa len cap S1.out).mono ?_
  rintro e w2 ⟨⟨s, n, cp, f, bv, sv, m, cv, g, rfl, hn, hsl, hsm, hm, hfar⟩, hg2, hS2⟩
  have ho := OnlyM.ofGrown hg2
  have Z2 : Hid (TBox w2 w.heap.size (.int .i64 0) (.slice none 0 0) (.int .i64 0) (.slice none 0 0) (.int .i64 0) (.slice none 0 0) (.int .i64 0) (.slice none 0 0) (.int .i64 0) (.slice none 0 0)) := Z1.out.other ho (by have := HZ2.out; omega)
  have X2 : Hid (Boxed w2 (w.heap.size + 1) 45 0 none 0 0) := X1.out.onlyM ho (by have := HZ2.out; omega)
  have B2 : Hid (Below w.heap.size w w2) := B1.out.trans (ho.below (by have := HZ2.out; omega) B1.out.size)
  have S2 : Hid (Src w2 b sa len cap) := hS2
  have L1 : Hid (w.heap.size + 2 < w1.heap.size ∧ b < w1.heap.size) := by have h1 := S1.out.lt; have h2 := HZ2.out; exact ⟨by omega, h1⟩
  have F2 : Hid (Mid w2 w1.heap.size w2.heap.size sv m g) := hfar.mid
  obtain ⟨mb, mm, F, hmm, hMS⟩ := masks_any s n cp f hn hsm
  have q3 := boxing w2 45 bv sv m cv
  have HMS : Hid (∀ W, CRow W W.heap.size s n f → Calls Try.prog 103 #[.slice s n cp] W fun e w' => NewMasks W mb mm F e w') := hMS
  have R2 := hsl.row
  clear hsl hsm hfar hg2 hS2 ho B1 Z1 X1 hMS
  go_wp2_with fail
  generalize w2.alloc (.cells #[.int .i64 bv, .slice sv m cv] 45) = v3 at *
  have hr3 := (R2.kept q3.1).up q3.1.size
  have Z3 : Hid (TBox v3 w.heap.size (.int .i64 0) (.slice none 0 0) (.int .i64 0) (.slice none 0 0) (.int .i64 0) (.slice none 0 0) (.int .i64 0) (.slice none 0 0) (.int .i64 0) (.slice none 0 0)) := Z2.out.kept q3.1 rfl
  have X3 : Hid (Boxed v3 (w.heap.size + 1) 45 0 none 0 0) := X2.out.kept q3.1 rfl
  have B3 : Hid (Below w.heap.size w v3) := B2.out.trans (q3.1.mono B2.out.size)
  have S3 : Hid (Src v3 b sa len cap) := S2.out.call q3.1
  have F3 : Hid (Mid v3 w1.heap.size w2.heap.size sv m g) := F2.out.keptC q3.1
  have Y3 : Hid (Boxed v3 w2.heap.size 45 bv sv m cv) := q3.2.1
  have L2 : Hid (b < w2.heap.size ∧ w.heap.size + 2 < w2.heap.size ∧ w2.heap.size < v3.heap.size) := ⟨S2.out.lt, by have h1 := S2.out.lt; have h2 := HZ2.out; have h3 := X2.out.lt; omega, q3.2.1.lt⟩
  clear q3 R2 Z2 X2 B2 S2 F2
  generalize w2.heap.size = p at *
  refine (HMS.out v3 hr3).mono ?_
  rintro e w4 ⟨ms, mc, mh, rfl, hb4, hml, hm0, hm5⟩
  unfold masksV
  have Z4 : Hid (TBox w4 w.heap.size (.int .i64 0) (.slice none 0 0) (.int .i64 0) (.slice none 0 0) (.int .i64 0) (.slice none 0 0) (.int .i64 0) (.slice none 0 0) (.int .i64 0) (.slice none 0 0)) := Z3.out.kept hb4 rfl
  have X4 : Hid (Boxed w4 (w.heap.size + 1) 45 0 none 0 0) := X3.out.kept hb4 rfl
  have B4 : Hid (Below w.heap.size w w4) := B3.out.trans (hb4.mono B3.out.size)
  have S4 : Hid (Src w4 b sa len cap) := S3.out.call hb4
  have F4 : Hid (Mid w4 w1.heap.size p sv m g) := F3.out.keptC hb4
  have Y4 : Hid (Boxed w4 p 45 bv sv m cv) := Y3.out.kept hb4 rfl
  have M4 : Hid (MSl w4 mh ms mm F ∧ v3.heap.size ≤ mh 0 ∧ mh 5 ≤ w4.heap.size) := ⟨hml, hm0, hm5⟩
  have qb : Below w4.heap.size w4 (w4.alloc (.cells #[.int .i64 mb, .slice (ms 0) mm (mc 0), .int .i64 mb, .slice (ms 1) mm (mc 1), .int .i64 mb, .slice (ms 2) mm (mc 2), .int .i64 mb, .slice (ms 3) mm (mc 3), .int .i64 mb, .slice (ms 4) mm (mc 4)] 50)) := (Below.refl _ _).alloc (Nat.le_refl _) _
  have qx : TBox (w4.alloc (.cells #[.int .i64 mb, .slice (ms 0) mm (mc 0), .int .i64 mb, .slice (ms 1) mm (mc 1), .int .i64 mb, .slice (ms 2) mm (mc 2), .int .i64 mb, .slice (ms 3) mm (mc 3), .int .i64 mb, .slice (ms 4) mm (mc 4)] 50)) w4.heap.size (.int .i64 mb) (.slice (ms 0) mm (mc 0)) (.int .i64 mb) (.slice (ms 1) mm (mc 1)) (.int .i64 mb) (.slice (ms 2) mm (mc 2)) (.int .i64 mb) (.slice (ms 3) mm (mc 3)) (.int .i64 mb) (.slice (ms 4) mm (mc 4)) := heap_alloc_new w4 _
  have qz : (w4.alloc (.cells #[.int .i64 mb, .slice (ms 0) mm (mc 0), .int .i64 mb, .slice (ms 1) mm (mc 1), .int .i64 mb, .slice (ms 2) mm (mc 2), .int .i64 mb, .slice (ms 3) mm (mc 3), .int .i64 mb, .slice (ms 4) mm (mc 4)] 50)).heap.size = w4.heap.size + 1 := by simp
  clear hr3 hb4 hml hm0 hm5 Z3 X3 B3 S3 F3 Y3 HMS
  go_wp2_with fail
  generalize w4.alloc (.cells #[.int .i64 mb, .slice (ms 0) mm (mc 0), .int .i64 mb, .slice (ms 1) mm (mc 1), .int .i64 mb, .slice (ms 2) mm (mc 2), .int .i64 mb, .slice (ms 3) mm (mc 3), .int .i64 mb, .slice (ms 4) mm (mc 4)] 50) = v5 at *
  have Z5 : Hid (TBox v5 w.heap.size (.int .i64 0) (.slice none 0 0) (.int .i64 0) (.slice none 0 0) (.int .i64 0) (.slice none 0 0) (.int .i64 0) (.slice none 0 0) (.int .i64 0) (.slice none 0 0)) := Z4.out.kept qb rfl
  have X5 : Hid (Boxed v5 (w.heap.size + 1) 45 0 none 0 0) := X4.out.kept qb rfl
  have B5 : Hid (Below w.heap.size w v5) := B4.out.trans (qb.mono B4.out.size)
  have S5 : Hid (Src v5 b sa len cap) := S4.out.call qb
  have F5 : Hid (Mid v5 w1.heap.size p sv m g) := F4.out.keptC qb
  have Y5 : Hid (Boxed v5 p 45 bv sv m cv) := Y4.out.kept qb rfl
  have M5 : Hid (MSl v5 mh ms mm F) := M4.out.1.kept qb
  have T5 : Hid (TBox v5 w4.heap.size (.int .i64 mb) (.slice (ms 0) mm (mc 0)) (.int .i64 mb) (.slice (ms 1) mm (mc 1)) (.int .i64 mb) (.slice (ms 2) mm (mc 2)) (.int .i64 mb) (.slice (ms 3) mm (mc 3)) (.int .i64 mb) (.slice (ms 4) mm (mc 4))) := qx
  have L5 : Hid (p < w4.heap.size ∧ mh 5 ≤ w4.heap.size ∧ p < mh 0 ∧ w4.heap.size < v5.heap.size ∧ b < p ∧ w.heap.size + 2 < p) := ⟨Y4.out.lt, M4.out.2.2, by have := M4.out.2.1; have := L2.out; omega, by omega, L2.out.1, L2.out.2.1⟩
  clear qb qx qz Z4 X4 B4 S4 F4 Y4 M4
  generalize w4.heap.size = q at *
  refine (one_any v5 b sa len cap 15 (by decide) S5.out).mono ?_
  rintro e w6 ⟨⟨y, rfl⟩, hg6, hS6⟩
  have ho := OnlyM.ofGrown hg6
  have Z6 : Hid (TBox w6 w.heap.size (.int .i64 0) (.slice none 0 0) (.int .i64 0) (.slice none 0 0) (.int .i64 0) (.slice none 0 0) (.int .i64 0) (.slice none 0 0) (.int .i64 0) (.slice none 0 0)) := Z5.out.other ho (by have := HZ2.out; omega)
  have X6 : Hid (Boxed w6 (w.heap.size + 1) 45 0 none 0 0) := X5.out.onlyM ho (by have := HZ2.out; omega)
  have B6 : Hid (Below w.heap.size w w6) := B5.out.trans (ho.below (by have := HZ2.out; omega) B5.out.size)
  have S6 : Hid (Src w6 b sa len cap) := hS6
  have F6 : Hid (Mid w6 w1.heap.size p sv m g) := F5.out.onlyM ho (by have := L1.out; omega)
  have Y6 : Hid (Boxed w6 p 45 bv sv m cv) := Y5.out.onlyM ho (by have := L5.out; omega)
  have M6 : Hid (MSl w6 mh ms mm F) := M5.out.onlyM ho (by have := L5.out; omega)
  have T6 : Hid (TBox w6 q (.int .i64 mb) (.slice (ms 0) mm (mc 0)) (.int .i64 mb) (.slice (ms 1) mm (mc 1)) (.int .i64 mb) (.slice (ms 2) mm (mc 2)) (.int .i64 mb) (.slice (ms 3) mm (mc 3)) (.int .i64 mb) (.slice (ms 4) mm (mc 4))) := T5.out.other ho (by have := L5.out; omega)
  clear hg6 hS6 ho Z5 X5 B5 S5 F5 Y5 M5 T5
  have hwp : w.heap.size ≠ p := by have := L5.out; omega
  have hwq : w.heap.size ≠ q := by have := L5.out; omega
  have hwp1 : w.heap.size + 1 ≠ p := by have := L5.out; omega
  have hwq1 : w.heap.size + 1 ≠ q := by have := L5.out; omega
  have hpq : p ≠ q := by have := L5.out; omega
  cases y with
  | false =>
    obtain ⟨t0, t1, t2, t3, t4, t5, t6, t7, t8, t9⟩ := T6.out.cells
    have tl := T6.out.lt
    obtain ⟨y0, y1⟩ := Y6.out.cells
    have yl := Y6.out.lt
    obtain ⟨o0, o1, o2, o3, o4, o5, o6, o7, o8, o9⟩ := Z6.out.cells
    obtain ⟨f0, f1, f2, f3, f4, f5, f6, f7, f8, f9⟩ := Z6.out.free
    have ol := Z6.out.lt
    obtain ⟨a0, a1, a2, a3⟩ := X6.out.four
    have al := X6.out.lt
    go_wp2_with fail
    go_region
    all_goals
      go_wp2_with fail
      refine bodyPost_ret (v := .tuple #[m5V (five mb mb mb mb mb) (five (ms 0) (ms 1) (ms 2) (ms 3) (ms 4)) (five mm mm mm mm mm) (five (mc 0) (mc 1) (mc 2) (mc 3) (mc 4)), .agg #[.int .i64 bv, .slice sv m cv]]) (by simp [results, Try.results31, go_sem, m5V, five, o0, o1, o2, o3, o4, o5, o6, o7, o8, o9, a0, a1]) rfl ?_
      have FIN : ∀ V, OnlyM w6 V w.heap.size (w.heap.size + 2) → FiveAndOne (.returned (.tuple #[m5V (five mb mb mb mb mb) (five (ms 0) (ms 1) (ms 2) (ms 3) (ms 4)) (five mm mm mm mm mm) (five (mc 0) (mc 1) (mc 2) (mc 3) (mc 4)), .agg #[.int .i64 bv, .slice sv m cv]])) V ∧ Below w.heap.size w V := fun V hV => by
        have hM := M6.out.onlyM hV (Or.inr (by have := L5.out; omega))
        have hF := F6.out.onlyM hV (by have := L1.out; omega)
        exact ⟨⟨_, _, _, _, _, bv, sv, m, cv, g, rfl, five_le (by omega) (by omega) (by omega) (by omega) (by omega), row5 hM.r0.row hM.r1.row hM.r2.row hM.r3.row hM.r4.row, hm, hF.row⟩, B6.out.trans (hV.below (Nat.le_refl _) B6.out.size)⟩
      refine FIN _ ?_
      repeat (first | (with_reducible refine only_dr ?_) | (with_reducible refine only_r2 ?_) | (with_reducible refine only_r3 ?_))
      with_reducible exact OnlyM.refl _ _ _
  | true =>
    go_wp2_with fail
    refine (vec_any w6 b sa len cap S6.out).mono ?_
    rintro e w7 ⟨b9, s9, m9, c9, g9, rfl, _, _, hm9, hf9, hg7, hS7⟩
    unfold vecV
    have ho := OnlyM.ofGrown hg7
    have Z7 : TBox w7 w.heap.size (.int .i64 0) (.slice none 0 0) (.int .i64 0) (.slice none 0 0) (.int .i64 0) (.slice none 0 0) (.int .i64 0) (.slice none 0 0) (.int .i64 0) (.slice none 0 0) := Z6.out.other ho (by have := HZ2.out; omega)
    have X7 : Boxed w7 (w.heap.size + 1) 45 0 none 0 0 := X6.out.onlyM ho (by have := HZ2.out; omega)
    have B7 : Below w.heap.size w w7 := B6.out.trans (ho.below (by have := HZ2.out; omega) B6.out.size)
    have F7 : Mid w7 w1.heap.size p sv m g := F6.out.onlyM ho (by have := L1.out; omega)
    have Y7 : Boxed w7 p 45 bv sv m cv := Y6.out.onlyM ho (by have := L5.out; omega)
    have M7 : MSl w7 mh ms mm F := M6.out.onlyM ho (by have := L5.out; omega)
    have T7 : TBox w7 q (.int .i64 mb) (.slice (ms 0) mm (mc 0)) (.int .i64 mb) (.slice (ms 1) mm (mc 1)) (.int .i64 mb) (.slice (ms 2) mm (mc 2)) (.int .i64 mb) (.slice (ms 3) mm (mc 3)) (.int .i64 mb) (.slice (ms 4) mm (mc 4)) := T6.out.other ho (by have := L5.out; omega)
    have L7 : Hid (q < w6.heap.size) := T6.out.lt
    obtain ⟨t0, t1, t2, t3, t4, t5, t6, t7, t8, t9⟩ := T7.cells
    obtain ⟨u0, u1, u2, u3, u4, u5, u6, u7, u8, u9⟩ := T7.free
    have tl := T7.lt
    go_upto_region 6 with fail
    have hon := two_only w7 q 6 7 (.int .i64 b9) (.slice s9 m9 c9)
    have hput := T7.put3 (.int .i64 b9) (.slice s9 m9 c9)
    clear t0 t1 t2 t3 t4 t5 t6 t7 t8 t9 u0 u1 u2 u3 u4 u5 u6 u7 u8 u9 tl
    generalize (w7.setCell ⟨q, 6, none⟩ (.int .i64 b9)).setCell ⟨q, 7, none⟩ (.slice s9 m9 c9) = w8 at *
    have Z8 : Hid (TBox w8 w.heap.size (.int .i64 0) (.slice none 0 0) (.int .i64 0) (.slice none 0 0) (.int .i64 0) (.slice none 0 0) (.int .i64 0) (.slice none 0 0) (.int .i64 0) (.slice none 0 0)) := Z7.other hon (by omega)
    have X8 : Hid (Boxed w8 (w.heap.size + 1) 45 0 none 0 0) := X7.onlyM hon (by omega)
    have B8 : Hid (Below w.heap.size w w8) := B7.trans (hon.below (by have := L5.out; omega) B7.size)
    have F8 : Hid (Mid w8 w1.heap.size p sv m g) := F7.onlyM hon (by have := L5.out; omega)
    have Y8 : Hid (Boxed w8 p 45 bv sv m cv) := Y7.onlyM hon (by omega)
    have M8 : Hid (MSl w8 mh ms mm F) := M7.onlyM hon (by have := L5.out; omega)
    have T8 : Hid (TBox w8 q (.int .i64 mb) (.slice (ms 0) mm (mc 0)) (.int .i64 mb) (.slice (ms 1) mm (mc 1)) (.int .i64 mb) (.slice (ms 2) mm (mc 2)) (.int .i64 b9) (.slice s9 m9 c9) (.int .i64 mb) (.slice (ms 4) mm (mc 4))) := hput
    have F9 : Hid (FarV w8 w6.heap.size s9 m9 g9) := hf9.onlyM hon (by have := L7.out; omega)
    clear Z7 X7 B7 F7 Y7 M7 T7 hon hput hf9 hg7 hS7 ho Z6 X6 B6 S6 F6 Y6 M6 T6
    obtain ⟨t0, t1, t2, t3, t4, t5, t6, t7, t8, t9⟩ := T8.out.cells
    have tl := T8.out.lt
    obtain ⟨y0, y1⟩ := Y8.out.cells
    have yl := Y8.out.lt
    obtain ⟨o0, o1, o2, o3, o4, o5, o6, o7, o8, o9⟩ := Z8.out.cells
    obtain ⟨f0, f1, f2, f3, f4, f5, f6, f7, f8, f9⟩ := Z8.out.free
    have ol := Z8.out.lt
    obtain ⟨a0, a1, a2, a3⟩ := X8.out.four
    have al := X8.out.lt
    go_wp2_with fail
    go_region
    all_goals
      go_wp2_with fail
      refine bodyPost_ret (v := .tuple #[m5V (five mb mb mb b9 mb) (five (ms 0) (ms 1) (ms 2) s9 (ms 4)) (five mm mm mm m9 mm) (five (mc 0) (mc 1) (mc 2) c9 (mc 4)), .agg #[.int .i64 bv, .slice sv m cv]]) (by simp [results, Try.results31, go_sem, m5V, five, o0, o1, o2, o3, o4, o5, o6, o7, o8, o9, a0, a1]) rfl ?_
      have FIN : ∀ V, OnlyM w8 V w.heap.size (w.heap.size + 2) → FiveAndOne (.returned (.tuple #[m5V (five mb mb mb b9 mb) (five (ms 0) (ms 1) (ms 2) s9 (ms 4)) (five mm mm mm m9 mm) (five (mc 0) (mc 1) (mc 2) c9 (mc 4)), .agg #[.int .i64 bv, .slice sv m cv]])) V ∧ Below w.heap.size w V := fun V hV => by
        have hM := M8.out.onlyM hV (Or.inr (by have := L5.out; omega))
        have hF := F8.out.onlyM hV (by have := L1.out; omega)
        have h9 := F9.out.onlyM hV (by have := L5.out; have := L7.out; omega)
        exact ⟨⟨_, _, _, _, _, bv, sv, m, cv, g, rfl, five_le (by omega) (by omega) (by omega) (by omega) (by omega), row5 hM.r0.row hM.r1.row hM.r2.row h9.row hM.r4.row, hm, hF.row⟩, B8.out.trans (hV.below (Nat.le_refl _) B8.out.size)⟩
      refine FIN _ ?_
      repeat (first | (with_reducible refine only_dr ?_) | (with_reducible refine only_r2 ?_) | (with_reducible refine only_r3 ?_))
      with_reducible exact OnlyM.refl _ _ _
end Go.Proofs.Ytlgnplnmcdjbiaa
