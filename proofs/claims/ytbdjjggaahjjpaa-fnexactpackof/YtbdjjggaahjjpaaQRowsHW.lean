/- What is proved here: the laws' helpers over slices of slices of cells, in one form: a copy, the comparison, the marks. -/
import Derived.Test.YtbdjjggaahjjpaaQPkHW
namespace Go.Proofs.Ytbdjjggaahjjpaa
open Go.RowKit

/-- Slices of cells that are read. -/
def RowsRead (W : World) (sr : Option Addr) (k : Nat) (n : Nat → Nat) (f : Nat → Nat → Cel) : Prop := ∃ (s : Nat → Option Addr) (c : Nat → Nat), CCRows W W.heap.size sr k s n c f
/-- Slices of cells that may be written, in a stretch of blocks. -/
def RowsOwn (W : World) (lo hi : Nat) (sr : Option Addr) (k : Nat) (n : Nat → Nat) (f : Nat → Nat → Cel) : Prop := ∃ (g : Nat) (b : Nat → Nat) (s : Nat → Option Addr) (c : Nat → Nat), sr = some ⟨g, 0, none⟩ ∧ CCOwn W lo hi g k b s n c f
theorem RowsRead.late {W W' : World} {sr : Option Addr} {k : Nat} {n : Nat → Nat} {f : Nat → Nat → Cel} (h : RowsRead W sr k n f) (hb : Below W.heap.size W W') : RowsRead W' sr k n f := by
  obtain ⟨s, c, h⟩ := h
  exact ⟨s, c, h.late hb⟩
theorem RowsOwn.read {W : World} {lo hi : Nat} {sr : Option Addr} {k : Nat} {n : Nat → Nat} {f : Nat → Nat → Cel} (h : RowsOwn W lo hi sr k n f) : RowsRead W sr k n f := by
  obtain ⟨g, b, s, c, rfl, h⟩ := h
  exact ⟨s, c, h.read⟩
theorem RowsOwn.kept {W W' : World} {lo hi : Nat} {sr : Option Addr} {k : Nat} {n : Nat → Nat} {f : Nat → Nat → Cel} (h : RowsOwn W lo hi sr k n f) (hb : Below W.heap.size W W') : RowsOwn W' lo hi sr k n f := by
  obtain ⟨g, b, s, c, e, h⟩ := h
  exact ⟨g, b, s, c, e, h.kept hb⟩
theorem RowsOwn.onlyM {W W' : World} {lo hi lo' hi' : Nat} {sr : Option Addr} {k : Nat} {n : Nat → Nat} {f : Nat → Nat → Cel} (h : RowsOwn W lo hi sr k n f) (ho : OnlyM W W' lo' hi') (hd : hi ≤ lo' ∨ hi' ≤ lo) : RowsOwn W' lo hi sr k n f := by
  obtain ⟨g, b, s, c, e, h⟩ := h
  exact ⟨g, b, s, c, e, h.onlyM ho hd⟩
theorem toRows_any (sa : Option Addr) (k cap : Nat) (n : Nat → Nat) (f : Nat → Nat → Cel) (w : World) (hk : k ≤ 1048576) (hn : ∀ i, i < k → n i ≤ 1048576) (hr : RowsRead w sa k n f) :
    Calls Try.prog 14 #[.slice sa k cap] w fun e w' => ∃ (sr : Option Addr) (cr : Nat), e = .returned (.slice sr k cr) ∧ Below w.heap.size w w' ∧ RowsOwn w' w.heap.size w'.heap.size sr k n f := by
  obtain ⟨s, c, hr⟩ := hr
  refine (toCC_any sa k cap s n c f w hk hn hr).mono ?_
  rintro e w' ⟨h, s', c', rfl, hb, ho⟩
  exact ⟨_, _, rfl, hb, w.heap.size, _, s', c', rfl, ho.own (Nat.le_refl _) ho.sz (Nat.le_refl _)⟩
theorem eqRows_same (sa sb : Option Addr) (k ca cb : Nat) (n : Nat → Nat) (f : Nat → Nat → Cel) (w : World) (hk : k ≤ 1048576) (hn : ∀ i, i < k → n i ≤ 1048576) (ha : RowsRead w sa k n f) (hb : RowsRead w sb k n f) :
    Calls Try.prog 17 #[.slice sa k ca, .slice sb k cb] w fun e w' => e = .returned (.bool true) ∧ Below w.heap.size w w' := by
  obtain ⟨s, c, ha⟩ := ha
  obtain ⟨t, d, hb⟩ := hb
  exact eqCC_same sa sb k ca cb s t n c d f w hk hn ha hb
theorem markRows_any (lo hi : Nat) (sr : Option Addr) (k cap q0 : Nat) (n : Nat → Nat) (f : Nat → Nat → Cel) (w : World) (hk : k ≤ 1048576) (ht : totC n k ≤ 1048576) (hq0 : 0 < q0) (hq9 : q0 ≤ 4000000) (ho : RowsOwn w lo hi sr k n f) :
    Calls Try.prog 18 #[.slice sr k cap, .int .i64 (q0 : Int)] w fun e w' => e = .returned (.int .i64 ((q0 + totC n k * 3 : Nat) : Int)) ∧ OnlyM w w' lo hi := by
  obtain ⟨g, b, s, c, rfl, ho⟩ := ho
  refine (markCC_own g k cap lo hi q0 b s n c f w ht hq0 hq9 hk ho).mono ?_
  rintro e w' ⟨rfl, h, _⟩
  refine ⟨rfl, h.toM (fun p hp => ?_)⟩
  obtain ⟨i, hi', hne, rfl⟩ := hp
  rcases ho.rows i hi' with h9 | ⟨_, x2, x3, _⟩
  · exact absurd h9 hne
  · exact ⟨x2, x3⟩
end Go.Proofs.Ytbdjjggaahjjpaa
