/- What is said here: a pack: rows of cells, places, a number of bits; how it is read and owned.
   What is proved here: the laws' comparison and marks over slices of slices of cells: what they hand back and what they leave as it was. -/
import Derived.Test.YtbdjjggaahjjpaaQCCOwnM
import Derived.Test.YtbdjjggaahjjpaaQCCHW
namespace Go.Proofs.Ytbdjjggaahjjpaa
open Go.RowKit

/-- A pack. -/
structure Pk where
  k : Nat
  n : Nat → Nat
  f : Nat → Nat → Cel
  m : Nat
  a : Nat → Int
  b : Int
/-- The pack's cells with so many marks. -/
def Pk.marked (P : Pk) (q : Nat) : Pk := { P with f := fun i => markD (q + totC P.n i * 3), a := fun i => ((q + totC P.n P.k * 3 : Nat) : Int) + i }
/-- A pack that is read. -/
def PkRead (W : World) (sr sm : Option Addr) (P : Pk) : Prop := (∃ (s : Nat → Option Addr) (c : Nat → Nat), CCRows W W.heap.size sr P.k s P.n c P.f) ∧ Row W W.heap.size sm P.m P.a
/-- A pack that may be written, its blocks in a stretch. -/
def PkOwn (W : World) (lo hi : Nat) (sr sm : Option Addr) (P : Pk) : Prop :=
  ∃ (g a : Nat) (b : Nat → Nat) (s : Nat → Option Addr) (c : Nat → Nat), (P.k = 0 ∨ (sr = some ⟨g, 0, none⟩ ∧ CCOwn W lo hi g P.k b s P.n c P.f)) ∧ (P.m = 0 ∨ (sm = some ⟨a, 0, none⟩ ∧ lo ≤ a ∧ a < hi ∧ (P.k = 0 ∨ (a ≠ g ∧ ¬ inRows P.k P.n b a)) ∧ Own W a P.m P.a))
theorem PkRead.late {W W' : World} {sr sm : Option Addr} {P : Pk} (h : PkRead W sr sm P) (hb : Below W.heap.size W W') : PkRead W' sr sm P := by
  obtain ⟨⟨s, c, h1⟩, h2⟩ := h
  exact ⟨⟨s, c, h1.late hb⟩, (h2.kept hb).up hb.size⟩
theorem PkOwn.read {W : World} {lo hi : Nat} {sr sm : Option Addr} {P : Pk} (h : PkOwn W lo hi sr sm P) : PkRead W sr sm P := by
  obtain ⟨g, a, b, s, c, h1, h2⟩ := h
  refine ⟨⟨s, c, ?_⟩, ?_⟩
  · rcases h1 with h1 | ⟨rfl, h1⟩
    · exact Or.inl h1
    · exact h1.read
  · rcases h2 with h2 | ⟨rfl, _, _, _, h2⟩
    · exact Or.inl h2
    · exact h2.row h2.1
theorem PkOwn.kept {W W' : World} {lo hi : Nat} {sr sm : Option Addr} {P : Pk} (h : PkOwn W lo hi sr sm P) (hb : Below W.heap.size W W') : PkOwn W' lo hi sr sm P := by
  obtain ⟨g, a, b, s, c, h1, h2⟩ := h
  exact ⟨g, a, b, s, c, h1.imp id (fun ⟨e, h⟩ => ⟨e, h.kept hb⟩), h2.imp id (fun ⟨e, h3, h4, h5, h6⟩ => ⟨e, h3, h4, h5, h6.kept hb h6.1⟩)⟩
theorem PkOwn.onlyM {W W' : World} {lo hi lo' hi' : Nat} {sr sm : Option Addr} {P : Pk} (h : PkOwn W lo hi sr sm P) (ho : OnlyM W W' lo' hi') (hd : hi ≤ lo' ∨ hi' ≤ lo) : PkOwn W' lo hi sr sm P := by
  obtain ⟨g, a, b, s, c, h1, h2⟩ := h
  refine ⟨g, a, b, s, c, h1.imp id (fun ⟨e, h⟩ => ⟨e, h.onlyM ho hd⟩), h2.imp id (fun ⟨e, h3, h4, h5, h6⟩ => ⟨e, h3, h4, h5, ?_⟩)⟩
  have h9 : OnlyAt W W' (fun p => lo' ≤ p ∧ p < hi') := ⟨ho.os, ho.tape, ho.output, ho.size, fun q hq hn => ho.block q hq (by omega)⟩
  exact h6.onlyAt h9 (by omega)
theorem PkOwn.wide {W : World} {lo hi lo' hi' : Nat} {sr sm : Option Addr} {P : Pk} (h : PkOwn W lo hi sr sm P) (hl : lo' ≤ lo) (hh : hi ≤ hi') (hz : hi' ≤ W.heap.size) : PkOwn W lo' hi' sr sm P := by
  obtain ⟨g, a, b, s, c, h1, h2⟩ := h
  refine ⟨g, a, b, s, c, h1.imp id (fun ⟨e, h⟩ => ⟨e, ⟨Nat.le_trans hl h.glo, Nat.lt_of_lt_of_le h.ghi hh, hz, h.cells, fun i hi => (h.rows i hi).imp id (fun ⟨x1, x2, x3, x4, x5⟩ => ⟨x1, Nat.le_trans hl x2, Nat.lt_of_lt_of_le x3 hh, x4, x5⟩), h.apart⟩⟩), h2.imp id (fun ⟨e, h3, h4, h5, h6⟩ => ⟨e, Nat.le_trans hl h3, Nat.lt_of_lt_of_le h4 hh, h5, h6⟩)⟩
/-- A pack in new memory. -/
def NewPk (w : World) (P : Pk) (e : Ending) (w' : World) : Prop := ∃ (sr sm : Option Addr) (cr cm : Nat), e = .returned (.agg #[.slice sr P.k cr, .slice sm P.m cm, .int .i64 P.b]) ∧ Below w.heap.size w w' ∧ PkOwn w' w.heap.size w'.heap.size sr sm P
end Go.Proofs.Ytbdjjggaahjjpaa
namespace Go.Proofs.Ytbdjjggaahjjpaa
open Go.RowKit

set_option maxHeartbeats 1000000 in
theorem eqCC_same (sa sb : Option Addr) (k ca cb : Nat) (s1 s2 : Nat → Option Addr) (n c1 c2 : Nat → Nat) (f : Nat → Nat → Cel) (w : World) (hk : k ≤ 1048576) (hn : ∀ i, i < k → n i ≤ 1048576) (ha : CCRows w w.heap.size sa k s1 n c1 f) (hb : CCRows w w.heap.size sb k s2 n c2 f) :
    Calls Try.prog 17 #[.slice sa k ca, .slice sb k cb] w fun e w' => e = .returned (.bool true) ∧ Below w.heap.size w w' := by
  have HA : Hid (CCRows w w.heap.size sa k s1 n c1 f) := ha
  have HB : Hid (CCRows w w.heap.size sb k s2 n c2 f) := hb
  have HEQ : Hid (∀ i, i < k → ∀ W, CRow W W.heap.size (s1 i) (n i) (f i) → CRow W W.heap.size (s2 i) (n i) (f i) → Calls Try.prog 45 #[.slice (s1 i) (n i) (c1 i), .slice (s2 i) (n i) (c2 i)] W fun e w' => e = .returned (.bool true) ∧ Below W.heap.size W w') := fun i hi W h1 h2 => eqCells_same (s1 i) (s2 i) (n i) (c1 i) (c2 i) (f i) W (hn i hi) h1 h2
  clear ha hb hn
  go_enter Try.func17, Try.ntmps17
  go_wp2_with fail
  go_loopw [5] (fun iv wr => ∃ i : Nat, i ≤ k ∧ iv = .int .i64 (i : Int) ∧ Below w.heap.size w wr) (fun iv _ => k - (intOf iv).toNat)
  case atStart => exact ⟨0, Nat.zero_le _, rfl, Below.refl _ _⟩
  case round =>
    obtain ⟨i, hi, rfl, hbel⟩ := hrel
    have HW : Hid (Below w.heap.size w wr) := hbel
    by_cases hil : i < k
    · obtain ⟨ba, oa, rfl, hba, ca1, hra⟩ := (HA.out.late hbel).at hil
      obtain ⟨bb, ob, rfl, hbb, cb1, hrb⟩ := (HB.out.late hbel).at hil
      have hd : Below wr.heap.size wr wr.drew := (Below.refl _ _).drew
      have C := HEQ.out i hil wr.drew ((hra.kept hd).up hd.size) ((hrb.kept hd).up hd.size)
      have hii : (i : Int) < (k : Int) := by omega
      have hi0 : (0 : Int) ≤ (i : Int) := by omega
      clear hbel hra hrb hd
      generalize s1 i = x1 at *
      generalize s2 i = x2 at *
      generalize n i = ni at *
      generalize c1 i = y1 at *
      generalize c2 i = y2 at *
      go_wp2_with fail
      go_region_with (go_at_call 45; refine C.mono ?_; rintro e w1 ⟨rfl, hb1⟩; have HB1 : Hid (Below w.heap.size w w1) := HW.out.drew.trans (hb1.mono HW.out.size); clear hb1)
      all_goals
        go_wp2_with fail
        go_roundw
        case rel => exact ⟨i + 1, by omega, by go_num, HB1.out⟩
        case measure => simp [intOf]; omega
    · have hii : ¬ (i : Int) < (k : Int) := by omega
      clear hbel
      go_wp2_with fail
      go_ret
      exact ⟨rfl, HW.out⟩
end Go.Proofs.Ytbdjjggaahjjpaa
