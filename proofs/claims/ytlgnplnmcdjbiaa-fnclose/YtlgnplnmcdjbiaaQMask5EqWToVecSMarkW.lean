/- What is proved here: the laws' comparison of five vectors, each of its own length, hands back true where they are the same.
   What is proved here: the laws' marks over slices of int64: what they hand back and what they leave as it was.
   What is proved here: the laws' marks over vectors: what they hand back and what they leave as it was.
   What is proved here: a vector's marks, its words in a stretch of blocks. -/
import Derived.Test.YtlgnplnmcdjbiaaQMask5DToVecH
import Derived.Test.YtlgnplnmcdjbiaaQRowsDToVecS
namespace Go.Proofs.Ytlgnplnmcdjbiaa
open Go.RowKit

set_option maxRecDepth 100000 in
set_option maxHeartbeats 4000000 in
theorem eqMasks5_same (b : Nat → Int) (s t : Nat → Option Addr) (n c d : Nat → Nat) (F : Nat → Nat → Int) (w : World) (hn : ∀ i, i < 5 → n i ≤ 1048576) (hA : M5Row w s n F) (hB : M5Row w t n F) :
    Calls Try.prog 56 #[m5V b s n c, m5V b t n d] w fun e w' => e = .returned (.bool true) ∧ Below w.heap.size w w' := by
  have q0 := m5boxing w b s n c
  have q1 := m5boxing (w.alloc (.cells #[.int .i64 (b 0), .slice (s 0) (n 0) (c 0), .int .i64 (b 1), .slice (s 1) (n 1) (c 1), .int .i64 (b 2), .slice (s 2) (n 2) (c 2), .int .i64 (b 3), .slice (s 3) (n 3) (c 3), .int .i64 (b 4), .slice (s 4) (n 4) (c 4)] 50)) b t n d
  have MA : Hid (M5Row w s n F) := hA
  have MB : Hid (M5Row w t n F) := hB
  clear hA hB
  unfold m5V
  go_enter Try.func56, Try.ntmps56
  go_wp2_with fail
  generalize hv : w.alloc (.cells #[.int .i64 (b 0), .slice (s 0) (n 0) (c 0), .int .i64 (b 1), .slice (s 1) (n 1) (c 1), .int .i64 (b 2), .slice (s 2) (n 2) (c 2), .int .i64 (b 3), .slice (s 3) (n 3) (c 3), .int .i64 (b 4), .slice (s 4) (n 4) (c 4)] 50) = v at *
  generalize hv0 : v.alloc (.cells #[.int .i64 (b 0), .slice (t 0) (n 0) (d 0), .int .i64 (b 1), .slice (t 1) (n 1) (d 1), .int .i64 (b 2), .slice (t 2) (n 2) (d 2), .int .i64 (b 3), .slice (t 3) (n 3) (d 3), .int .i64 (b 4), .slice (t 4) (n 4) (d 4)] 50) = v0 at *
  rw [q0.2.2] at q1
  have HB0 : Hid (Below w.heap.size w v0) := q0.1.trans (q1.1.mono (by omega))
  have MA0 : Hid (M5Row v0 s n F) := MA.out.since ⟨HB0.out⟩
  have MB0 : Hid (M5Row v0 t n F) := MB.out.since ⟨HB0.out⟩
  have XA0 : Hid (M5Box v0 w.heap.size b s n c) := q0.2.1.kept q1.1 (by rw [q0.2.2])
  have XB0 : Hid (M5Box v0 (w.heap.size + 1) b t n d) := q1.2.1
  clear q0 q1 hv hv0 MA MB
  refine (eqVec_same (b 0) (s 0) (t 0) (n 0) (c 0) (d 0) (F 0) v0 (hn 0 (by decide)) (MA0.out 0 (by decide)) (MB0.out 0 (by decide))).mono ?_
  rintro e v1 ⟨rfl, hb⟩
  have MA1 : Hid (M5Row v1 s n F) := MA0.out.since ⟨hb⟩
  have MB1 : Hid (M5Row v1 t n F) := MB0.out.since ⟨hb⟩
  have XA1 : Hid (M5Box v1 w.heap.size b s n c) := XA0.out.kept hb rfl
  have XB1 : Hid (M5Box v1 (w.heap.size + 1) b t n d) := XB0.out.kept hb rfl
  have HB1 : Hid (Below w.heap.size w v1) := HB0.out.trans (hb.mono HB0.out.size)
  clear hb MA0 MB0 XA0 XB0 HB0
  obtain ⟨a0, a1, a2, a3, a4, a5, a6, a7, a8, a9⟩ := XA1.out.cells
  obtain ⟨b0, b1, b2, b3, b4, b5, b6, b7, b8, b9⟩ := XB1.out.cells
  have la := XA1.out.lt
  have lb := XB1.out.lt
  go_wp2_with fail
  clear a0 a1 a2 a3 a4 a5 a6 a7 a8 a9 b0 b1 b2 b3 b4 b5 b6 b7 b8 b9 la lb
  refine (eqVec_same (b 1) (s 1) (t 1) (n 1) (c 1) (d 1) (F 1) v1 (hn 1 (by decide)) (MA1.out 1 (by decide)) (MB1.out 1 (by decide))).mono ?_
  rintro e v2 ⟨rfl, hb⟩
  have MA2 : Hid (M5Row v2 s n F) := MA1.out.since ⟨hb⟩
  have MB2 : Hid (M5Row v2 t n F) := MB1.out.since ⟨hb⟩
  have XA2 : Hid (M5Box v2 w.heap.size b s n c) := XA1.out.kept hb rfl
  have XB2 : Hid (M5Box v2 (w.heap.size + 1) b t n d) := XB1.out.kept hb rfl
  have HB2 : Hid (Below w.heap.size w v2) := HB1.out.trans (hb.mono HB1.out.size)
  clear hb MA1 MB1 XA1 XB1 HB1
  obtain ⟨a0, a1, a2, a3, a4, a5, a6, a7, a8, a9⟩ := XA2.out.cells
  obtain ⟨b0, b1, b2, b3, b4, b5, b6, b7, b8, b9⟩ := XB2.out.cells
  have la := XA2.out.lt
  have lb := XB2.out.lt
  go_wp2_with fail
  clear a0 a1 a2 a3 a4 a5 a6 a7 a8 a9 b0 b1 b2 b3 b4 b5 b6 b7 b8 b9 la lb
  refine (eqVec_same (b 2) (s 2) (t 2) (n 2) (c 2) (d 2) (F 2) v2 (hn 2 (by decide)) (MA2.out 2 (by decide)) (MB2.out 2 (by decide))).mono ?_
  rintro e v3 ⟨rfl, hb⟩
  have MA3 : Hid (M5Row v3 s n F) := MA2.out.since ⟨hb⟩
  have MB3 : Hid (M5Row v3 t n F) := MB2.out.since ⟨hb⟩
  have XA3 : Hid (M5Box v3 w.heap.size b s n c) := XA2.out.kept hb rfl
  have XB3 : Hid (M5Box v3 (w.heap.size + 1) b t n d) := XB2.out.kept hb rfl
  have HB3 : Hid (Below w.heap.size w v3) := HB2.out.trans (hb.mono HB2.out.size)
  clear hb MA2 MB2 XA2 XB2 HB2
  obtain ⟨a0, a1, a2, a3, a4, a5, a6, a7, a8, a9⟩ := XA3.out.cells
  obtain ⟨b0, b1, b2, b3, b4, b5, b6, b7, b8, b9⟩ := XB3.out.cells
  have la := XA3.out.lt
  have lb := XB3.out.lt
  go_wp2_with fail
  clear a0 a1 a2 a3 a4 a5 a6 a7 a8 a9 b0 b1 b2 b3 b4 b5 b6 b7 b8 b9 la lb
  refine (eqVec_same (b 3) (s 3) (t 3) (n 3) (c 3) (d 3) (F 3) v3 (hn 3 (by decide)) (MA3.out 3 (by decide)) (MB3.out 3 (by decide))).mono ?_
  rintro e v4 ⟨rfl, hb⟩
  have MA4 : Hid (M5Row v4 s n F) := MA3.out.since ⟨hb⟩
  have MB4 : Hid (M5Row v4 t n F) := MB3.out.since ⟨hb⟩
  have XA4 : Hid (M5Box v4 w.heap.size b s n c) := XA3.out.kept hb rfl
  have XB4 : Hid (M5Box v4 (w.heap.size + 1) b t n d) := XB3.out.kept hb rfl
  have HB4 : Hid (Below w.heap.size w v4) := HB3.out.trans (hb.mono HB3.out.size)
  clear hb MA3 MB3 XA3 XB3 HB3
  obtain ⟨a0, a1, a2, a3, a4, a5, a6, a7, a8, a9⟩ := XA4.out.cells
  obtain ⟨b0, b1, b2, b3, b4, b5, b6, b7, b8, b9⟩ := XB4.out.cells
  have la := XA4.out.lt
  have lb := XB4.out.lt
  go_wp2_with fail
  clear a0 a1 a2 a3 a4 a5 a6 a7 a8 a9 b0 b1 b2 b3 b4 b5 b6 b7 b8 b9 la lb
  refine (eqVec_same (b 4) (s 4) (t 4) (n 4) (c 4) (d 4) (F 4) v4 (hn 4 (by decide)) (MA4.out 4 (by decide)) (MB4.out 4 (by decide))).mono ?_
  rintro e v5 ⟨rfl, hb⟩
  have MA5 : Hid (M5Row v5 s n F) := MA4.out.since ⟨hb⟩
  have MB5 : Hid (M5Row v5 t n F) := MB4.out.since ⟨hb⟩
  have XA5 : Hid (M5Box v5 w.heap.size b s n c) := XA4.out.kept hb rfl
  have XB5 : Hid (M5Box v5 (w.heap.size + 1) b t n d) := XB4.out.kept hb rfl
  have HB5 : Hid (Below w.heap.size w v5) := HB4.out.trans (hb.mono HB4.out.size)
  clear hb MA4 MB4 XA4 XB4 HB4
  obtain ⟨a0, a1, a2, a3, a4, a5, a6, a7, a8, a9⟩ := XA5.out.cells
  obtain ⟨b0, b1, b2, b3, b4, b5, b6, b7, b8, b9⟩ := XB5.out.cells
  have la := XA5.out.lt
  have lb := XB5.out.lt
  go_wp2_with fail
  go_ret
  exact ⟨rfl, HB5.out⟩
end Go.Proofs.Ytlgnplnmcdjbiaa
namespace Go.Proofs.Ytlgnplnmcdjbiaa
open Go.RowKit

set_option maxHeartbeats 1000000 in
theorem mark_own (g n cap : Nat) (f : Nat → Int) (k : Int) (w : World) (hn : n ≤ 1048576) (h0 : 0 ≤ k) (h1 : k ≤ 1099511627776) (ho : Own w g n f) :
    Calls Try.prog 76 #[.slice (some ⟨g, 0, none⟩) n cap, .int .i64 k] w fun e w' => e = .returned (.int .i64 (k + n)) ∧ w.grownBy w' (some g) ∧ Own w' g n (fun i => k + i) := by
  have HO : Hid (Own w g n f) := ho
  clear ho
  go_enter Try.func76, Try.ntmps76
  go_wp2
  go_loopw [1, 5] (fun kv i wr => ∃ j : Nat, j ≤ n ∧ kv = .int .i64 (k + j) ∧ i = .int .i64 (j : Int) ∧ w.grownBy wr (some g) ∧ Own wr g n (fun i => if i < j then k + i else f i)) (fun _ i _ => n - (intOf i).toNat)
  case atStart => exact ⟨0, Nat.zero_le _, by simp, rfl, World.grownBy.refl _ _, HO.out.congr (fun i _ => by simp)⟩
  case round =>
    obtain ⟨j, hj, rfl, rfl, hgr, hown⟩ := hrel
    have HG : Hid (w.grownBy wr (some g)) := hgr
    have HW : Hid (Own wr g n (fun i => if i < j then k + i else f i)) := hown
    by_cases hjl : j < n
    · have cy := hown.2.1 j hjl
      have cf := hown.2.2 j hjl
      have hsz := hown.1
      clear hgr hown
      have hji : (j : Int) < (n : Int) := by omega
      have hj0 : (0 : Int) ≤ (j : Int) := by omega
      go_wp2
      go_roundw
      case rel => exact ⟨j + 1, by omega, by go_num, by go_num, only_set HG.out, ((HW.out.set hjl (k + j)).congr (fun i hi => by
        by_cases e : i = j
        · subst e; simp
        · simp only [if_neg e]
          by_cases e2 : i < j
          · rw [if_pos e2, if_pos (by omega)]
          · rw [if_neg e2, if_neg (by omega)]))⟩
      case measure => simp [intOf]; omega
    · have hji : ¬ (j : Int) < (n : Int) := by omega
      obtain rfl : j = n := by omega
      clear hgr hown
      go_wp2
      go_ret
      exact ⟨rfl, HG.out, HW.out.congr (fun i hi => if_pos (by omega))⟩
theorem mark_none (sa : Option Addr) (cap : Nat) (k : Int) (w : World) :
    Calls Try.prog 76 #[.slice sa 0 cap, .int .i64 k] w fun e w' => e = .returned (.int .i64 k) ∧ w' = w := by
  go_enter Try.func76, Try.ntmps76
  go_wp2
  go_loopw [1, 5] (fun kv i wr => kv = .int .i64 k ∧ i = .int .i64 0 ∧ wr = w) (fun _ _ _ => 0)
  case atStart => exact ⟨rfl, rfl, rfl⟩
  case round =>
    obtain ⟨rfl, rfl, rfl⟩ := hrel
    go_wp2
    go_ret
    exact ⟨rfl, rfl⟩
theorem markRow_any (sa : Option Addr) (n cap lo : Nat) (f : Nat → Int) (k : Int) (w : World) (hn : n ≤ 1048576) (h0 : 0 ≤ k) (h1 : k ≤ 1099511627776) (ho : OwnS w lo sa n f) :
    Calls Try.prog 76 #[.slice sa n cap, .int .i64 k] w fun e w' => e = .returned (.int .i64 (k + n)) ∧ OnlyS w w' sa n ∧ OwnS w' lo sa n (fun i => k + i) := by
  rcases ho with rfl | ⟨g, rfl, hlo, ho⟩
  · refine (mark_none sa cap k w).mono ?_
    rintro e w' ⟨rfl, rfl⟩
    exact ⟨by simp, ⟨none, World.grownBy.refl _ _, fun _ h => by cases h⟩, Or.inl rfl⟩
  · rcases Nat.eq_zero_or_pos n with rfl | hp
    · refine (mark_none _ cap k w).mono ?_
      rintro e w' ⟨rfl, rfl⟩
      exact ⟨by simp, ⟨none, World.grownBy.refl _ _, fun _ h => by cases h⟩, Or.inl rfl⟩
    · refine (mark_own g n cap f k w hn h0 h1 ho).mono ?_
      rintro e w' ⟨rfl, hg, ho'⟩
      exact ⟨rfl, ⟨some g, hg, fun g' h => by cases h; exact ⟨hp, rfl⟩⟩, Or.inr ⟨g, rfl, hlo, ho'⟩⟩

set_option maxHeartbeats 1000000 in
theorem heldRow_any (sa : Option Addr) (n cap : Nat) (k : Int) (w : World) (hn : n ≤ 1048576) (h0 : 0 ≤ k) (h1 : k ≤ 1099511627776) (hr : Row w w.heap.size sa n (fun i => k + i)) :
    Calls Try.prog 77 #[.slice sa n cap, .int .i64 k] w fun e w' => e = .returned (.int .i64 (k + n)) ∧ Below w.heap.size w w' := by
  have HR : Hid (Row w w.heap.size sa n (fun i => k + i)) := hr
  clear hr
  go_enter Try.func77, Try.ntmps77
  go_wp2
  go_loopw [1, 5] (fun kv i wr => ∃ j : Nat, j ≤ n ∧ kv = .int .i64 (k + j) ∧ i = .int .i64 (j : Int) ∧ Below w.heap.size w wr) (fun _ i _ => n - (intOf i).toNat)
  case atStart => exact ⟨0, Nat.zero_le _, by simp, rfl, Below.refl _ _⟩
  case round =>
    obtain ⟨j, hj, rfl, rfl, hbel⟩ := hrel
    have HW : Hid (Below w.heap.size w wr) := hbel
    by_cases hjl : j < n
    · obtain ⟨ba, oa, rfl, hba, hca⟩ : ∃ bb off : Nat, sa = some ⟨bb, off, none⟩ ∧ bb < w.heap.size ∧ ∀ i, i < n → w.cell? ⟨bb, off + i, none⟩ = some (.int .i64 (k + i)) := by
        rcases HR.out with h | h
        · omega
        · exact h
      have cz : wr.cell? ⟨ba, oa + j, none⟩ = some (.int .i64 (k + j)) := by rw [hbel.cell (p := ⟨ba, oa + j, none⟩) hba]; exact hca j hjl
      clear hca hbel
      have hji : (j : Int) < (n : Int) := by omega
      have hj0 : (0 : Int) ≤ (j : Int) := by omega
      go_wp2
      go_roundw
      case rel => exact ⟨j + 1, by omega, by go_num, by go_num, HW.out⟩
      case measure => simp [intOf]; omega
    · have hji : ¬ (j : Int) < (n : Int) := by omega
      obtain rfl : j = n := by omega
      clear hbel
      go_wp2
      go_ret
      exact ⟨rfl, HW.out⟩
end Go.Proofs.Ytlgnplnmcdjbiaa
namespace Go.Proofs.Ytlgnplnmcdjbiaa
open Go.RowKit

set_option maxHeartbeats 1000000 in
theorem markVec_any (b : Int) (sa : Option Addr) (n cap lo : Nat) (f : Nat → Int) (k : Int) (w : World) (hn : n ≤ 1048576) (h0 : 0 ≤ k) (h1 : k ≤ 1099511627776) (ho : OwnS w lo sa n f) :
    Calls Try.prog 58 #[.agg #[.int .i64 b, .slice sa n cap], .int .i64 k] w fun e w' => e = .returned (.int .i64 (k + n)) ∧ OnlyS w w' sa n ∧ OwnS w' lo sa n (fun i => k + i) := by
  have HO : Hid (OwnS w lo sa n f) := ho
  clear ho
  have hb0 : Below w.heap.size w (w.alloc (.cells #[.int .i64 b, .slice sa n cap] 45)) := (Below.refl _ _).alloc (Nat.le_refl _) _
  have HB0 : Hid (Below w.heap.size w (w.alloc (.cells #[.int .i64 b, .slice sa n cap] 45))) := hb0
  clear hb0
  go_enter Try.func58, Try.ntmps58
  go_wp2_with fail
  refine (markRow_any sa n cap lo f k _ hn h0 h1 (HO.out.kept HB0.out rfl)).mono ?_
  rintro e w1 ⟨rfl, hon, how⟩
  have HON : Hid (OnlyS w w1 sa n) := by
    obtain ⟨row, hg, hr⟩ := hon
    exact ⟨row, (World.grownBy_alloc w _ row).trans hg, hr⟩
  have HOW : Hid (OwnS w1 lo sa n (fun i => k + i)) := how
  clear hon how HB0 HO
  go_wp2
  go_ret
  exact ⟨rfl, HON.out, HOW.out⟩

set_option maxHeartbeats 1000000 in
theorem heldVec_any (b : Int) (sa : Option Addr) (n cap : Nat) (k : Int) (w : World) (hn : n ≤ 1048576) (h0 : 0 ≤ k) (h1 : k ≤ 1099511627776) (hr : Row w w.heap.size sa n (fun i => k + i)) :
    Calls Try.prog 59 #[.agg #[.int .i64 b, .slice sa n cap], .int .i64 k] w fun e w' => e = .returned (.int .i64 (k + n)) ∧ Below w.heap.size w w' := by
  have HR : Hid (Row w w.heap.size sa n (fun i => k + i)) := hr
  clear hr
  have hb0 : Below w.heap.size w (w.alloc (.cells #[.int .i64 b, .slice sa n cap] 45)) := (Below.refl _ _).alloc (Nat.le_refl _) _
  have HB0 : Hid (Below w.heap.size w (w.alloc (.cells #[.int .i64 b, .slice sa n cap] 45))) := hb0
  clear hb0
  go_enter Try.func59, Try.ntmps59
  go_wp2_with fail
  refine (heldRow_any sa n cap k _ hn h0 h1 ((HR.out.kept HB0.out).up HB0.out.size)).mono ?_
  rintro e w1 ⟨rfl, hb1⟩
  have HB1 : Hid (Below w.heap.size w w1) := HB0.out.trans (hb1.mono HB0.out.size)
  clear hb1 HB0
  have hk : ¬ k + (n : Int) < 0 := by omega
  go_wp2
  go_ret
  exact ⟨rfl, HB1.out⟩
end Go.Proofs.Ytlgnplnmcdjbiaa
namespace Go.Proofs.Ytlgnplnmcdjbiaa
open Go.RowKit

theorem markVec_in (b : Int) (sa : Option Addr) (n cap lo hi : Nat) (f : Nat → Int) (k : Int) (w : World) (hn : n ≤ 1048576) (h0 : 0 ≤ k) (h1 : k ≤ 1099511627776) (ho : Slice w lo hi sa n f) :
    Calls Try.prog 58 #[.agg #[.int .i64 b, .slice sa n cap], .int .i64 k] w fun e w' => e = .returned (.int .i64 (k + n)) ∧ OnlyIn w w' lo hi ∧ Slice w' lo hi sa n (fun i => k + i) := by
  refine (markVec_any b sa n cap lo f k w hn h0 h1 ho.own).mono ?_
  rintro e w' ⟨rfl, ⟨row, hg, hr⟩, hs⟩
  have hin : ∀ g, sa = some ⟨g, 0, none⟩ → 0 < n → lo ≤ g ∧ g < hi := by
    intro g hg hn
    rcases ho with h | ⟨g', h1, h2, h3, h4⟩
    · omega
    · rw [h1] at hg
      injection hg with hg
      injection hg with hg
      subst hg
      exact ⟨h2, h3⟩
  refine ⟨rfl, ⟨row, hg, fun g e => hin g (hr g e).2 (hr g e).1⟩, ?_⟩
  rcases hs with h | ⟨g, h1, h2, h3⟩
  · exact Or.inl h
  · rcases Nat.eq_zero_or_pos n with hz | hz
    · exact Or.inl hz
    · exact Or.inr ⟨g, h1, h2, (hin g h1 hz).2, h3⟩
end Go.Proofs.Ytlgnplnmcdjbiaa
