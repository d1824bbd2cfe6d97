/- What is said here: five vectors in one struct, each of its own number of bits and words.
   What is said here: five rows, each of its own length, each in a stretch of blocks of its own.
   What is proved here: the laws' comparison of slices of int64: what it hands back and what it leaves as it was.
   What is proved here: the laws' helpers over slices of int64 (their size, a copy, the comparison): what they hand back and what they leave as it was.
   What is proved here: the laws' comparison of vectors: what it hands back and what it leaves as it was.
   What is proved here: the laws' helpers over vectors (size, copy, comparison): what they hand back and what they leave as it was. -/
import Derived.Test.YtlgnplnmcdjbiaaQCellDToMaskD
import Derived.Test.YtlgnplnmcdjbiaaQRowsDToVecS
namespace Go.Proofs.Ytlgnplnmcdjbiaa
open Go.RowKit

/-- Five vectors. -/
def m5V (b : Nat → Int) (s : Nat → Option Addr) (n c : Nat → Nat) : Value := .agg #[.int .i64 (b 0), .slice (s 0) (n 0) (c 0), .int .i64 (b 1), .slice (s 1) (n 1) (c 1), .int .i64 (b 2), .slice (s 2) (n 2) (c 2), .int .i64 (b 3), .slice (s 3) (n 3) (c 3), .int .i64 (b 4), .slice (s 4) (n 4) (c 4)]
/-- A box of five vectors. -/
def M5Box (W : World) (p : Nat) (b : Nat → Int) (s : Nat → Option Addr) (n c : Nat → Nat) : Prop := W.heap[p]? = some (.cells #[.int .i64 (b 0), .slice (s 0) (n 0) (c 0), .int .i64 (b 1), .slice (s 1) (n 1) (c 1), .int .i64 (b 2), .slice (s 2) (n 2) (c 2), .int .i64 (b 3), .slice (s 3) (n 3) (c 3), .int .i64 (b 4), .slice (s 4) (n 4) (c 4)] 50 (0, 0))
theorem M5Box.lt {W : World} {p : Nat} {b : Nat → Int} {s : Nat → Option Addr} {n c : Nat → Nat} (h : M5Box W p b s n c) : p < W.heap.size := lt_of_block h
theorem M5Box.cells {W : World} {p : Nat} {b : Nat → Int} {s : Nat → Option Addr} {n c : Nat → Nat} (h : M5Box W p b s n c) : W.cell? ⟨p, 0, none⟩ = some (.int .i64 (b 0)) ∧ W.cell? ⟨p, 1, none⟩ = some (.slice (s 0) (n 0) (c 0)) ∧ W.cell? ⟨p, 2, none⟩ = some (.int .i64 (b 1)) ∧ W.cell? ⟨p, 3, none⟩ = some (.slice (s 1) (n 1) (c 1)) ∧ W.cell? ⟨p, 4, none⟩ = some (.int .i64 (b 2)) ∧ W.cell? ⟨p, 5, none⟩ = some (.slice (s 2) (n 2) (c 2)) ∧ W.cell? ⟨p, 6, none⟩ = some (.int .i64 (b 3)) ∧ W.cell? ⟨p, 7, none⟩ = some (.slice (s 3) (n 3) (c 3)) ∧ W.cell? ⟨p, 8, none⟩ = some (.int .i64 (b 4)) ∧ W.cell? ⟨p, 9, none⟩ = some (.slice (s 4) (n 4) (c 4)) := by
  unfold M5Box at h
  simp [World.cell?, h]
theorem M5Box.kept {W' : World} {B : Nat} {W : World} {p : Nat} {b : Nat → Int} {s : Nat → Option Addr} {n c : Nat → Nat} (h : M5Box W p b s n c) (hb : Below B W W') (hB : B = W.heap.size) : M5Box W' p b s n c := by
  unfold M5Box
  rw [hb.block p (by rw [hB]; exact h.lt)]
  exact h
theorem m5boxing (W : World) (b : Nat → Int) (s : Nat → Option Addr) (n c : Nat → Nat) : Below W.heap.size W (W.alloc (.cells #[.int .i64 (b 0), .slice (s 0) (n 0) (c 0), .int .i64 (b 1), .slice (s 1) (n 1) (c 1), .int .i64 (b 2), .slice (s 2) (n 2) (c 2), .int .i64 (b 3), .slice (s 3) (n 3) (c 3), .int .i64 (b 4), .slice (s 4) (n 4) (c 4)] 50)) ∧ M5Box (W.alloc (.cells #[.int .i64 (b 0), .slice (s 0) (n 0) (c 0), .int .i64 (b 1), .slice (s 1) (n 1) (c 1), .int .i64 (b 2), .slice (s 2) (n 2) (c 2), .int .i64 (b 3), .slice (s 3) (n 3) (c 3), .int .i64 (b 4), .slice (s 4) (n 4) (c 4)] 50)) W.heap.size b s n c ∧ (W.alloc (.cells #[.int .i64 (b 0), .slice (s 0) (n 0) (c 0), .int .i64 (b 1), .slice (s 1) (n 1) (c 1), .int .i64 (b 2), .slice (s 2) (n 2) (c 2), .int .i64 (b 3), .slice (s 3) (n 3) (c 3), .int .i64 (b 4), .slice (s 4) (n 4) (c 4)] 50)).heap.size = W.heap.size + 1 :=
  ⟨(Below.refl _ _).alloc (Nat.le_refl _) _, heap_alloc_new W _, by simp⟩
/-- All five are right, and of as many bits as a right sixth. -/
def All5 (b : Nat → Int) (n : Nat → Nat) (F : Nat → Nat → Int) (bv : Int) (m : Nat) (g : Nat → Int) (R : Int → Nat → (Nat → Int) → Prop) : Prop := ∀ i, i < 5 → R (b i) (n i) (F i) ∧ R bv m g ∧ b i = bv
end Go.Proofs.Ytlgnplnmcdjbiaa
namespace Go.Proofs.Ytlgnplnmcdjbiaa
open Go.RowKit

structure M5Sl (W : World) (h : Nat → Nat) (s : Nat → Option Addr) (n : Nat → Nat) (F : Nat → Nat → Int) : Prop where
  r0 : Slice W (h 0) (h 1) (s 0) (n 0) (F 0)
  r1 : Slice W (h 1) (h 2) (s 1) (n 1) (F 1)
  r2 : Slice W (h 2) (h 3) (s 2) (n 2) (F 2)
  r3 : Slice W (h 3) (h 4) (s 3) (n 3) (F 3)
  r4 : Slice W (h 4) (h 5) (s 4) (n 4) (F 4)
  up : h 0 ≤ h 1 ∧ h 1 ≤ h 2 ∧ h 2 ≤ h 3 ∧ h 3 ≤ h 4 ∧ h 4 ≤ h 5
theorem M5Sl.kept {W' : World} {W : World} {h : Nat → Nat} {s : Nat → Option Addr} {n : Nat → Nat} {F : Nat → Nat → Int} (m : M5Sl W h s n F) (hb : Below W.heap.size W W') : M5Sl W' h s n F :=
  ⟨m.r0.kept hb rfl, m.r1.kept hb rfl, m.r2.kept hb rfl, m.r3.kept hb rfl, m.r4.kept hb rfl, m.up⟩
theorem M5Sl.onlyM {W' : World} {lo hi : Nat} {W : World} {h : Nat → Nat} {s : Nat → Option Addr} {n : Nat → Nat} {F : Nat → Nat → Int} (m : M5Sl W h s n F) (ho : OnlyM W W' lo hi) (hd : h 5 ≤ lo ∨ hi ≤ h 0) : M5Sl W' h s n F := by
  have := m.up
  exact ⟨m.r0.onlyM ho (by omega), m.r1.onlyM ho (by omega), m.r2.onlyM ho (by omega), m.r3.onlyM ho (by omega), m.r4.onlyM ho (by omega), m.up⟩
theorem M5Sl.only {W' : World} {lo hi : Nat} {W : World} {h : Nat → Nat} {s : Nat → Option Addr} {n : Nat → Nat} {F : Nat → Nat → Int} (m : M5Sl W h s n F) (ho : OnlyIn W W' lo hi) (hd : h 5 ≤ lo ∨ hi ≤ h 0) : M5Sl W' h s n F :=
  m.onlyM (OnlyM.of ho (Nat.le_refl _) (Nat.le_refl _)) hd
/-- All five may be read. -/
def M5Row (W : World) (s : Nat → Option Addr) (n : Nat → Nat) (F : Nat → Nat → Int) : Prop := ∀ i, i < 5 → Row W W.heap.size (s i) (n i) (F i)
theorem M5Sl.row {W : World} {h : Nat → Nat} {s : Nat → Option Addr} {n : Nat → Nat} {F : Nat → Nat → Int} (m : M5Sl W h s n F) : M5Row W s n F := fun i hi => by
  have hc : i = 0 ∨ i = 1 ∨ i = 2 ∨ i = 3 ∨ i = 4 := by omega
  rcases hc with rfl | rfl | rfl | rfl | rfl
  · exact m.r0.row
  · exact m.r1.row
  · exact m.r2.row
  · exact m.r3.row
  · exact m.r4.row
theorem M5Row.since {w W : World} {s : Nat → Option Addr} {n : Nat → Nat} {F : Nat → Nat → Int} (h : M5Row w s n F) (hS : Since w W) : M5Row W s n F := fun i hi => row_since (h i hi) hS
theorem m5_zero (W : World) (s : Nat → Option Addr) (F : Nat → Nat → Int) : M5Row W s (fun _ => 0) F := fun _ _ => Or.inl rfl
end Go.Proofs.Ytlgnplnmcdjbiaa
namespace Go.Proofs.Ytlgnplnmcdjbiaa
open Go.RowKit

set_option maxHeartbeats 1000000 in
theorem eqRow_same (sa sb : Option Addr) (n ca cb : Nat) (f : Nat → Int) (w : World) (hn : n ≤ 1048576) (ha : Row w w.heap.size sa n f) (hb : Row w w.heap.size sb n f) :
    Calls Try.prog 75 #[.slice sa n ca, .slice sb n cb] w fun e w' => e = .returned (.bool true) ∧ Below w.heap.size w w' := by
  have HA : Hid (Row w w.heap.size sa n f) := ha
  have HB : Hid (Row w w.heap.size sb n f) := hb
  clear ha hb
  go_enter Try.func75, Try.ntmps75
  go_wp2
  go_loopw [5] (fun i wr => ∃ k : Nat, k ≤ n ∧ i = .int .i64 (k : Int) ∧ Below w.heap.size w wr) (fun i _ => n - (intOf i).toNat)
  case atStart => exact ⟨0, Nat.zero_le _, rfl, Below.refl _ _⟩
  case round =>
    obtain ⟨k, hk, rfl, hbel⟩ := hrel
    have HW : Hid (Below w.heap.size w wr) := hbel
    by_cases hkl : k < n
    · obtain ⟨ba, oa, rfl, hba, hca⟩ : ∃ bb off : Nat, sa = some ⟨bb, off, none⟩ ∧ bb < w.heap.size ∧ ∀ i, i < n → w.cell? ⟨bb, off + i, none⟩ = some (.int .i64 (f i)) := by
        rcases HA.out with h | h
        · omega
        · exact h
      obtain ⟨bb, ob, rfl, hbb, hcb⟩ : ∃ bb off : Nat, sb = some ⟨bb, off, none⟩ ∧ bb < w.heap.size ∧ ∀ i, i < n → w.cell? ⟨bb, off + i, none⟩ = some (.int .i64 (f i)) := by
        rcases HB.out with h | h
        · omega
        · exact h
      have cz : wr.cell? ⟨ba, oa + k, none⟩ = some (.int .i64 (f k)) := by rw [hbel.cell (p := ⟨ba, oa + k, none⟩) hba]; exact hca k hkl
      have cy : wr.cell? ⟨bb, ob + k, none⟩ = some (.int .i64 (f k)) := by rw [hbel.cell (p := ⟨bb, ob + k, none⟩) hbb]; exact hcb k hkl
      clear hca hcb hbel
      have hki : (k : Int) < (n : Int) := by omega
      have hk0 : (0 : Int) ≤ (k : Int) := by omega
      go_wp2
      go_region
      go_wp2
      go_roundw
      case rel => exact ⟨k + 1, by omega, by go_num, HW.out.drew⟩
      case measure => simp [intOf]; omega
    · have hki : ¬ (k : Int) < (n : Int) := by omega
      clear hbel
      go_wp2
      go_ret
      exact ⟨rfl, HW.out⟩
end Go.Proofs.Ytlgnplnmcdjbiaa
namespace Go.Proofs.Ytlgnplnmcdjbiaa
open Go.RowKit

/-- What is left of the size. -/
def szOf (n : Nat) (left : Int) : Int := if left < n then -1 else left - n
theorem szRow_any (sa : Option Addr) (n cap : Nat) (left : Int) (w : World) (hn : n ≤ maxLen) (h0 : 0 ≤ left) (h1 : left ≤ 1048576) :
    Calls Try.prog 133 #[.slice sa n cap, .int .i64 left] w fun e w' => e = .returned (.int .i64 (szOf n left)) ∧ w' = w := by
  unfold maxLen at hn
  by_cases h : left < (n : Int)
  · have hs : szOf n left = -1 := by unfold szOf; rw [if_pos h]
    rw [hs]
    have h' : left - (n : Int) < 0 := by omega
    go_enter Try.func133, Try.ntmps133
    go_wp2
    go_ret
    exact ⟨rfl, rfl⟩
  · have hs : szOf n left = left - n := by unfold szOf; rw [if_neg h]
    rw [hs]
    have h' : ¬ left - (n : Int) < 0 := by omega
    go_enter Try.func133, Try.ntmps133
    go_wp2
    go_ret
    exact ⟨rfl, rfl⟩

set_option maxHeartbeats 1000000 in
theorem toRow_any (sa : Option Addr) (n cap : Nat) (f : Nat → Int) (w : World) (hn : n ≤ 1048576) (hr : Row w w.heap.size sa n f) :
    Calls Try.prog 134 #[.slice sa n cap] w fun e w' => e = .returned (.slice (some ⟨w.heap.size, 0, none⟩) n n) ∧ Below w.heap.size w w' ∧ Own w' w.heap.size n f := by
  obtain ⟨C, hmk, hown⟩ := make_row w n (by omega)
  have HO : Hid (Own (w.alloc (.cells C 2)) w.heap.size n (fun _ => 0)) := hown
  have HR : Hid (Row w w.heap.size sa n f) := hr
  clear hown hr
  go_enter Try.func134, Try.ntmps134
  go_wp2
  go_loopw [4] (fun i wr => ∃ k : Nat, k ≤ n ∧ i = .int .i64 (k : Int) ∧ Below w.heap.size w wr ∧ Own wr w.heap.size n (fun i => if i < k then f i else 0)) (fun i _ => n - (intOf i).toNat)
  case atStart => exact ⟨0, Nat.zero_le _, rfl, (Below.refl _ _).alloc (Nat.le_refl _) _, HO.out.congr (fun i _ => by simp)⟩
  case round =>
    obtain ⟨k, hk, rfl, hbel, hown⟩ := hrel
    have HB : Hid (Below w.heap.size w wr) := hbel
    have HW : Hid (Own wr w.heap.size n (fun i => if i < k then f i else 0)) := hown
    by_cases hkl : k < n
    · obtain ⟨bb, off, rfl, hbb, hcell⟩ : ∃ bb off : Nat, sa = some ⟨bb, off, none⟩ ∧ bb < w.heap.size ∧ ∀ i, i < n → w.cell? ⟨bb, off + i, none⟩ = some (.int .i64 (f i)) := by
        rcases HR.out with h | h
        · omega
        · exact h
      have cz : wr.cell? ⟨bb, off + k, none⟩ = some (.int .i64 (f k)) := by rw [hbel.cell (p := ⟨bb, off + k, none⟩) hbb]; exact hcell k hkl
      have cy := hown.2.1 k hkl
      have cf := hown.2.2 k hkl
      have hsz := hown.1
      clear hcell hbel hown
      have hki : (k : Int) < (n : Int) := by omega
      have hk0 : (0 : Int) ≤ (k : Int) := by omega
      go_wp2
      go_roundw
      case rel => exact ⟨k + 1, by omega, by go_num, HB.out.setCell (Nat.le_refl _) _, (HW.out.set hkl (f k)).congr (fun i hi => by
        by_cases e : i = k
        · subst e; simp
        · simp only [if_neg e]
          by_cases e2 : i < k
          · rw [if_pos e2, if_pos (by omega)]
          · rw [if_neg e2, if_neg (by omega)])⟩
      case measure => simp [intOf]; omega
    · have hki : ¬ (k : Int) < (n : Int) := by omega
      clear hbel hown
      go_wp2
      go_ret
      exact ⟨rfl, HB.out, HW.out.congr (fun i hi => if_pos (by omega))⟩

end Go.Proofs.Ytlgnplnmcdjbiaa
namespace Go.Proofs.Ytlgnplnmcdjbiaa
open Go.RowKit

set_option maxHeartbeats 1000000 in
theorem eqVec_same (b : Int) (sa sb : Option Addr) (n ca cb : Nat) (f : Nat → Int) (w : World) (hn : n ≤ 1048576) (ha : Row w w.heap.size sa n f) (hb : Row w w.heap.size sb n f) :
    Calls Try.prog 55 #[.agg #[.int .i64 b, .slice sa n ca], .agg #[.int .i64 b, .slice sb n cb]] w fun e w' => e = .returned (.bool true) ∧ Below w.heap.size w w' := by
  have HA : Hid (Row w w.heap.size sa n f) := ha
  have HB : Hid (Row w w.heap.size sb n f) := hb
  clear ha hb
  have hb0 : Below w.heap.size w ((w.alloc (.cells #[.int .i64 b, .slice sa n ca] 45)).alloc (.cells #[.int .i64 b, .slice sb n cb] 45)) :=
    ((Below.refl _ _).alloc (Nat.le_refl _) _).alloc (by simp) _
  have HB0 : Hid (Below w.heap.size w ((w.alloc (.cells #[.int .i64 b, .slice sa n ca] 45)).alloc (.cells #[.int .i64 b, .slice sb n cb] 45))) := hb0
  clear hb0
  go_enter Try.func55, Try.ntmps55
  go_wp2_with fail
  refine (eqRow_same sa sb n ca cb f _ hn ((HA.out.kept HB0.out).up HB0.out.size) ((HB.out.kept HB0.out).up HB0.out.size)).mono ?_
  rintro e w1 ⟨rfl, hb1⟩
  have HB1 : Hid (Below w.heap.size w w1) := HB0.out.trans (hb1.mono HB0.out.size)
  clear hb1 HB0
  go_wp2
  go_ret
  exact ⟨rfl, HB1.out⟩
end Go.Proofs.Ytlgnplnmcdjbiaa
namespace Go.Proofs.Ytlgnplnmcdjbiaa
open Go.RowKit

theorem szVec_any (b : Int) (sa : Option Addr) (n cap : Nat) (left : Int) (w : World) (hn : n ≤ maxLen) (h0 : 0 ≤ left) (h1 : left ≤ 1048576) :
    Calls Try.prog 52 #[.agg #[.int .i64 b, .slice sa n cap], .int .i64 left] w fun e w' => e = .returned (.int .i64 (szOf n left)) ∧ Below w.heap.size w w' := by
  have hs : szOf n left < 0 → szOf n left = -1 := by
    unfold szOf
    split <;> omega
  have HC := fun w => szRow_any sa n cap left w hn h0 h1
  have HQ : Hid (∀ w, Calls Try.prog 133 #[.slice sa n cap, .int .i64 left] w fun e w' => e = .returned (.int .i64 (szOf n left)) ∧ w' = w) := HC
  clear HC
  generalize szOf n left = z at *
  have hb : Below w.heap.size w (w.alloc (.cells #[.int .i64 b, .slice sa n cap] 68)) := (Below.refl _ _).alloc (Nat.le_refl _) _
  have HB : Hid (Below w.heap.size w (w.alloc (.cells #[.int .i64 b, .slice sa n cap] 68))) := hb
  clear hb
  by_cases hz : z < 0
  · obtain rfl := hs hz
    clear hs hz
    go_enter Try.func52, Try.ntmps52
    go_wp2_with fail
    refine (HQ.out _).mono ?_
    rintro e w1 ⟨rfl, hw⟩
    subst hw
    go_wp2
    go_ret
    exact ⟨rfl, HB.out⟩
  · clear hs
    go_enter Try.func52, Try.ntmps52
    go_wp2_with fail
    refine (HQ.out _).mono ?_
    rintro e w1 ⟨rfl, hw⟩
    subst hw
    go_wp2
    go_ret
    exact ⟨rfl, HB.out⟩

/-- A slice in a new block. -/
def NewRow (w : World) (n : Nat) (f : Nat → Int) (e : Ending) (w' : World) : Prop := ∃ g, e = .returned (.slice (some ⟨g, 0, none⟩) n n) ∧ w.heap.size ≤ g ∧ Below w.heap.size w w' ∧ Own w' g n f
theorem toRow_new (sa : Option Addr) (n cap : Nat) (f : Nat → Int) (w : World) (hn : n ≤ 1048576) (hr : Row w w.heap.size sa n f) :
    Calls Try.prog 134 #[.slice sa n cap] w fun e w' => NewRow w n f e w' :=
  (toRow_any sa n cap f w hn hr).mono fun _ _ h => ⟨_, h.1, Nat.le_refl _, h.2.1, h.2.2⟩

set_option maxHeartbeats 1000000 in
theorem toVec_any (b : Int) (sa : Option Addr) (n cap : Nat) (f : Nat → Int) (w : World) (hn : n ≤ 1048576) (hr : Row w w.heap.size sa n f) :
    Calls Try.prog 54 #[.agg #[.int .i64 b, .slice sa n cap]] w fun e w' => NewVec w b n f e w' := by
  have HR : Hid (Row w w.heap.size sa n f) := hr
  clear hr
  go_enter Try.func54, Try.ntmps54
  go_wp2_with fail
  have hb0 : Below w.heap.size w (((w.alloc (.cells #[.int .i64 b, .slice sa n cap] 68)).alloc (.cells #[.int .i64 0, .slice none 0 0] 45)).alloc (.cells #[.int .i64 b, .slice none 0 0] 45)) :=
    (((Below.refl _ _).alloc (Nat.le_refl _) _).alloc (by simp) _).alloc (by simp; omega) _
  have HB0 : Hid (Below w.heap.size w (((w.alloc (.cells #[.int .i64 b, .slice sa n cap] 68)).alloc (.cells #[.int .i64 0, .slice none 0 0] 45)).alloc (.cells #[.int .i64 b, .slice none 0 0] 45))) := hb0
  refine (toRow_new sa n cap f _ hn ((HR.out.kept hb0).up hb0.size)).mono ?_
  clear hb0
  rintro e w1 ⟨g, rfl, hlo, hb, ho⟩
  obtain ⟨hc2, hf2⟩ := bcells hb
  have hz2 : w.heap.size + 2 < w1.heap.size := by have := hb.size; simp at this; omega
  have hg : w.heap.size + 2 < g := by simp at hlo; omega
  have HB : Hid (Below w.heap.size w w1) := HB0.out.trans (hb.mono HB0.out.size)
  have HO : Hid (Own w1 g n f) := ho
  clear hb hlo ho HB0 HR
  go_wp2
  refine bodyPost_ret (v := vecV b (some ⟨g, 0, none⟩) n n) (by simp [results, Try.results54, go_sem, vecV, hc2]) rfl ?_
  exact ⟨_, _, rfl, ((HB.out.setCell (by show w.heap.size ≤ w.heap.size + 1 + 1; omega) _).setCell (by show w.heap.size ≤ w.heap.size + 1; omega) _).setCell (by show w.heap.size ≤ w.heap.size + 1; omega) _, Or.inr ⟨g, rfl, by omega, ((HO.out.setOther _ _ (by show w.heap.size + 1 + 1 ≠ g; omega)).setOther _ _ (by show w.heap.size + 1 ≠ g; omega)).setOther _ _ (by show w.heap.size + 1 ≠ g; omega)⟩⟩

end Go.Proofs.Ytlgnplnmcdjbiaa
