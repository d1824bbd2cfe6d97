/- What is proved here: the laws' comparison of vectors: what it hands back and what it leaves as it was.
   What is proved here: the laws' marks over vectors: what they hand back and what they leave as it was.
   What is proved here: a vector's marks, its words in a stretch of blocks.
   What is said here: a box and its cells, whatever they are. -/
import Derived.Test.YtbdjjggaahjjpaaQVecD
import Derived.Test.YtbdjjggaahjjpaaQRowsEqWToRowsW
import Derived.Test.YtbdjjggaahjjpaaQRowsMarkW
import Derived.Test.YtbdjjggaahjjpaaQVecS
import Derived.Test.YtbdjjggaahjjpaaQMaskD
namespace Go.Proofs.Ytbdjjggaahjjpaa
open Go.RowKit

set_option maxHeartbeats 1000000 in
theorem eqVec_same (b : Int) (sa sb : Option Addr) (n ca cb : Nat) (f : Nat → Int) (w : World) (hn : n ≤ 1048576) (ha : Row w w.heap.size sa n f) (hb : Row w w.heap.size sb n f) :
    Calls Try.prog 29 #[.agg #[.int .i64 b, .slice sa n ca], .agg #[.int .i64 b, .slice sb n cb]] w fun e w' => e = .returned (.bool true) ∧ Below w.heap.size w w' := by
  have HA : Hid (Row w w.heap.size sa n f) := ha
  have HB : Hid (Row w w.heap.size sb n f) := hb
  clear ha hb
  have hb0 : Below w.heap.size w ((w.alloc (.cells #[.int .i64 b, .slice sa n ca] 36)).alloc (.cells #[.int .i64 b, .slice sb n cb] 36)) :=
    ((Below.refl _ _).alloc (Nat.le_refl _) _).alloc (by simp) _
  have HB0 : Hid (Below w.heap.size w ((w.alloc (.cells #[.int .i64 b, .slice sa n ca] 36)).alloc (.cells #[.int .i64 b, .slice sb n cb] 36))) := hb0
  clear hb0
  go_enter Try.func29, Try.ntmps29
  go_wp2_with fail
  refine (eqRow_same sa sb n ca cb f _ hn ((HA.out.kept HB0.out).up HB0.out.size) ((HB.out.kept HB0.out).up HB0.out.size)).mono ?_
  rintro e w1 ⟨rfl, hb1⟩
  have HB1 : Hid (Below w.heap.size w w1) := HB0.out.trans (hb1.mono HB0.out.size)
  clear hb1 HB0
  go_wp2
  go_ret
  exact ⟨rfl, HB1.out⟩
end Go.Proofs.Ytbdjjggaahjjpaa
namespace Go.Proofs.Ytbdjjggaahjjpaa
open Go.RowKit

set_option maxHeartbeats 1000000 in
theorem markVec_any (b : Int) (sa : Option Addr) (n cap lo : Nat) (f : Nat → Int) (k : Int) (w : World) (hn : n ≤ 1048576) (h0 : 0 ≤ k) (h1 : k ≤ 1099511627776) (ho : OwnS w lo sa n f) :
    Calls Try.prog 30 #[.agg #[.int .i64 b, .slice sa n cap], .int .i64 k] w fun e w' => e = .returned (.int .i64 (k + n)) ∧ OnlyS w w' sa n ∧ OwnS w' lo sa n (fun i => k + i) := by
  have HO : Hid (OwnS w lo sa n f) := ho
  clear ho
  have hb0 : Below w.heap.size w (w.alloc (.cells #[.int .i64 b, .slice sa n cap] 36)) := (Below.refl _ _).alloc (Nat.le_refl _) _
  have HB0 : Hid (Below w.heap.size w (w.alloc (.cells #[.int .i64 b, .slice sa n cap] 36))) := hb0
  clear hb0
  go_enter Try.func30, Try.ntmps30
  go_wp2_with fail
  refine (markRow_any sa n cap lo f k _ hn h0 h1 (HO.out.kept HB0.out rfl)).mono ?_
  rintro e w1 ⟨rfl, hon, how⟩
  have HON : Hid (OnlyS w w1 sa n) := by
    obtain ⟨row, hg, hr⟩ := hon
    exact ⟨row, (World.grownBy_alloc w _ row).trans hg, hr⟩
  have HOW : Hid (OwnS w1 lo sa n (fun i => k + i)) := how
  clear hon how HB0 HO
  go_wp2
  go_ret
  exact ⟨rfl, HON.out, HOW.out⟩

set_option maxHeartbeats 1000000 in
theorem heldVec_any (b : Int) (sa : Option Addr) (n cap : Nat) (k : Int) (w : World) (hn : n ≤ 1048576) (h0 : 0 ≤ k) (h1 : k ≤ 1099511627776) (hr : Row w w.heap.size sa n (fun i => k + i)) :
    Calls Try.prog 31 #[.agg #[.int .i64 b, .slice sa n cap], .int .i64 k] w fun e w' => e = .returned (.int .i64 (k + n)) ∧ Below w.heap.size w w' := by
  have HR : Hid (Row w w.heap.size sa n (fun i => k + i)) := hr
  clear hr
  have hb0 : Below w.heap.size w (w.alloc (.cells #[.int .i64 b, .slice sa n cap] 36)) := (Below.refl _ _).alloc (Nat.le_refl _) _
  have HB0 : Hid (Below w.heap.size w (w.alloc (.cells #[.int .i64 b, .slice sa n cap] 36))) := hb0
  clear hb0
  go_enter Try.func31, Try.ntmps31
  go_wp2_with fail
  refine (heldRow_any sa n cap k _ hn h0 h1 ((HR.out.kept HB0.out).up HB0.out.size)).mono ?_
  rintro e w1 ⟨rfl, hb1⟩
  have HB1 : Hid (Below w.heap.size w w1) := HB0.out.trans (hb1.mono HB0.out.size)
  clear hb1 HB0
  have hk : ¬ k + (n : Int) < 0 := by omega
  go_wp2
  go_ret
  exact ⟨rfl, HB1.out⟩
end Go.Proofs.Ytbdjjggaahjjpaa
namespace Go.Proofs.Ytbdjjggaahjjpaa
open Go.RowKit

theorem markVec_in (b : Int) (sa : Option Addr) (n cap lo hi : Nat) (f : Nat → Int) (k : Int) (w : World) (hn : n ≤ 1048576) (h0 : 0 ≤ k) (h1 : k ≤ 1099511627776) (ho : Slice w lo hi sa n f) :
    Calls Try.prog 30 #[.agg #[.int .i64 b, .slice sa n cap], .int .i64 k] w fun e w' => e = .returned (.int .i64 (k + n)) ∧ OnlyIn w w' lo hi ∧ Slice w' lo hi sa n (fun i => k + i) := by
  refine (markVec_any b sa n cap lo f k w hn h0 h1 ho.own).mono ?_
  rintro e w' ⟨rfl, ⟨row, hg, hr⟩, hs⟩
  have hin : ∀ g, sa = some ⟨g, 0, none⟩ → 0 < n → lo ≤ g ∧ g < hi := by
    intro g hg hn
    rcases ho with h | ⟨g', h1, h2, h3, h4⟩
    · omega
    · rw [h1] at hg
      injection hg with hg
      injection hg with hg
      subst hg
      exact ⟨h2, h3⟩
  refine ⟨rfl, ⟨row, hg, fun g e => hin g (hr g e).2 (hr g e).1⟩, ?_⟩
  rcases hs with h | ⟨g, h1, h2, h3⟩
  · exact Or.inl h
  · rcases Nat.eq_zero_or_pos n with hz | hz
    · exact Or.inl hz
    · exact Or.inr ⟨g, h1, h2, (hin g h1 hz).2, h3⟩
end Go.Proofs.Ytbdjjggaahjjpaa
namespace Go.Proofs.Ytbdjjggaahjjpaa
open Go.RowKit

/-- A box with these cells. -/
def BoxAt (W : World) (p : Nat) (arr : Array Value) (t : TypeId) : Prop := W.heap[p]? = some (.cells arr t (0, 0))
theorem BoxAt.lt {W : World} {p : Nat} {arr : Array Value} {t : TypeId} (h : BoxAt W p arr t) : p < W.heap.size := lt_of_block h
theorem BoxAt.cell {W : World} {p : Nat} {arr : Array Value} {t : TypeId} (h : BoxAt W p arr t) (i : Nat) (v : Value) (hv : arr[i]? = some v) : W.cell? ⟨p, i, none⟩ = some v := by
  unfold BoxAt at h
  simp [World.cell?, h, hv]
theorem BoxAt.free {W : World} {p : Nat} {arr : Array Value} {t : TypeId} (h : BoxAt W p arr t) (i : Nat) : W.frozen? ⟨p, i, none⟩ = false := frozen_of_row _ _ _ _ _ h
theorem BoxAt.kept {W W' : World} {p : Nat} {arr : Array Value} {t : TypeId} (h : BoxAt W p arr t) (hb : Below W.heap.size W W') : BoxAt W' p arr t := by
  unfold BoxAt
  rw [hb.block p h.lt]
  exact h
theorem BoxAt.onlyM {W W' : World} {lo hi p : Nat} {arr : Array Value} {t : TypeId} (h : BoxAt W p arr t) (ho : OnlyM W W' lo hi) (hp : p < lo ∨ hi ≤ p) : BoxAt W' p arr t := by
  unfold BoxAt
  rw [ho.block p h.lt hp]
  exact h
theorem BoxAt.drew {W : World} {p : Nat} {arr : Array Value} {t : TypeId} (h : BoxAt W p arr t) : BoxAt W.drew p arr t := h
theorem boxAt_new (W : World) (arr : Array Value) (t : TypeId) : Below W.heap.size W (W.alloc (.cells arr t)) ∧ BoxAt (W.alloc (.cells arr t)) W.heap.size arr t ∧ (W.alloc (.cells arr t)).heap.size = W.heap.size + 1 := ⟨(Below.refl _ _).alloc (Nat.le_refl _) _, heap_alloc_new W _, by simp⟩
end Go.Proofs.Ytbdjjggaahjjpaa
