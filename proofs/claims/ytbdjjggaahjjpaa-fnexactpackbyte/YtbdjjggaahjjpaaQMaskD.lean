/- What is said here: five vectors in one struct: its value, its box, its words in a stretch of blocks. -/
import Derived.Test.YtbdjjggaahjjpaaQVecS
import Derived.Test.YtbdjjggaahjjpaaQCellSToMarkTextW
namespace Go.Proofs.Ytbdjjggaahjjpaa
open Go.RowKit

/-- Five vectors of so many bits. -/
def masksV (b : Int) (s : Nat → Option Addr) (n : Nat) (c : Nat → Nat) : Value := .agg #[.int .i64 b, .slice (s 0) n (c 0), .int .i64 b, .slice (s 1) n (c 1), .int .i64 b, .slice (s 2) n (c 2), .int .i64 b, .slice (s 3) n (c 3), .int .i64 b, .slice (s 4) n (c 4)]
/-- A box of five vectors. -/
def MBox (W : World) (p : Nat) (b : Int) (s : Nat → Option Addr) (n : Nat) (c : Nat → Nat) : Prop := W.heap[p]? = some (.cells #[.int .i64 b, .slice (s 0) n (c 0), .int .i64 b, .slice (s 1) n (c 1), .int .i64 b, .slice (s 2) n (c 2), .int .i64 b, .slice (s 3) n (c 3), .int .i64 b, .slice (s 4) n (c 4)] 47 (0, 0))
theorem MBox.lt {W : World} {p : Nat} {b : Int} {s : Nat → Option Addr} {n : Nat} {c : Nat → Nat} (h : MBox W p b s n c) : p < W.heap.size := lt_of_block h
theorem MBox.cells {W : World} {p : Nat} {b : Int} {s : Nat → Option Addr} {n : Nat} {c : Nat → Nat} (h : MBox W p b s n c) : W.cell? ⟨p, 0, none⟩ = some (.int .i64 b) ∧ W.cell? ⟨p, 1, none⟩ = some (.slice (s 0) n (c 0)) ∧ W.cell? ⟨p, 2, none⟩ = some (.int .i64 b) ∧ W.cell? ⟨p, 3, none⟩ = some (.slice (s 1) n (c 1)) ∧ W.cell? ⟨p, 4, none⟩ = some (.int .i64 b) ∧ W.cell? ⟨p, 5, none⟩ = some (.slice (s 2) n (c 2)) ∧ W.cell? ⟨p, 6, none⟩ = some (.int .i64 b) ∧ W.cell? ⟨p, 7, none⟩ = some (.slice (s 3) n (c 3)) ∧ W.cell? ⟨p, 8, none⟩ = some (.int .i64 b) ∧ W.cell? ⟨p, 9, none⟩ = some (.slice (s 4) n (c 4)) := by
  unfold MBox at h
  simp [World.cell?, h]
theorem MBox.free {W : World} {p : Nat} {b : Int} {s : Nat → Option Addr} {n : Nat} {c : Nat → Nat} (h : MBox W p b s n c) : W.frozen? ⟨p, 0, none⟩ = false ∧ W.frozen? ⟨p, 1, none⟩ = false ∧ W.frozen? ⟨p, 2, none⟩ = false ∧ W.frozen? ⟨p, 3, none⟩ = false ∧ W.frozen? ⟨p, 4, none⟩ = false ∧ W.frozen? ⟨p, 5, none⟩ = false ∧ W.frozen? ⟨p, 6, none⟩ = false ∧ W.frozen? ⟨p, 7, none⟩ = false ∧ W.frozen? ⟨p, 8, none⟩ = false ∧ W.frozen? ⟨p, 9, none⟩ = false :=
  ⟨frozen_of_row _ _ _ _ _ h, frozen_of_row _ _ _ _ _ h, frozen_of_row _ _ _ _ _ h, frozen_of_row _ _ _ _ _ h, frozen_of_row _ _ _ _ _ h, frozen_of_row _ _ _ _ _ h, frozen_of_row _ _ _ _ _ h, frozen_of_row _ _ _ _ _ h, frozen_of_row _ _ _ _ _ h, frozen_of_row _ _ _ _ _ h⟩
theorem MBox.kept {W W' : World} {B p : Nat} {b : Int} {s : Nat → Option Addr} {n : Nat} {c : Nat → Nat} (h : MBox W p b s n c) (hb : Below B W W') (hB : B = W.heap.size) : MBox W' p b s n c := by
  unfold MBox
  rw [hb.block p (by rw [hB]; exact h.lt)]
  exact h
theorem MBox.setOther {W : World} {p : Nat} {b : Int} {s : Nat → Option Addr} {n : Nat} {c : Nat → Nat} (h : MBox W p b s n c) (a : Addr) (v : Value) (hne : a.block ≠ p) : MBox (W.setCell a v) p b s n c := by
  unfold MBox
  rw [Below.heap_setCell _ _ _ _ (fun e => hne e.symm)]
  exact h
theorem MBox.grown {W W' : World} {g p : Nat} {b : Int} {s : Nat → Option Addr} {n : Nat} {c : Nat → Nat} (h : MBox W p b s n c) (hg : W.grownBy W' (some g)) (hne : p ≠ g) : MBox W' p b s n c := by
  unfold MBox
  rw [hg.block p h.lt (fun e => hne (by injection e))]
  exact h
/-- Five vectors are put into a box. -/
theorem mboxing (W : World) (b : Int) (s : Nat → Option Addr) (n : Nat) (c : Nat → Nat) : Below W.heap.size W (W.alloc (.cells #[.int .i64 b, .slice (s 0) n (c 0), .int .i64 b, .slice (s 1) n (c 1), .int .i64 b, .slice (s 2) n (c 2), .int .i64 b, .slice (s 3) n (c 3), .int .i64 b, .slice (s 4) n (c 4)] 47)) ∧ MBox (W.alloc (.cells #[.int .i64 b, .slice (s 0) n (c 0), .int .i64 b, .slice (s 1) n (c 1), .int .i64 b, .slice (s 2) n (c 2), .int .i64 b, .slice (s 3) n (c 3), .int .i64 b, .slice (s 4) n (c 4)] 47)) W.heap.size b s n c ∧ (W.alloc (.cells #[.int .i64 b, .slice (s 0) n (c 0), .int .i64 b, .slice (s 1) n (c 1), .int .i64 b, .slice (s 2) n (c 2), .int .i64 b, .slice (s 3) n (c 3), .int .i64 b, .slice (s 4) n (c 4)] 47)).heap.size = W.heap.size + 1 :=
  ⟨(Below.refl _ _).alloc (Nat.le_refl _) _, heap_alloc_new W _, by simp⟩
/-- Blocks of a stretch turned, no others. -/
structure OnlyM (W W' : World) (lo hi : Nat) : Prop where
  os : W'.os = W.os
  tape : W'.tape = W.tape
  output : W'.output = W.output
  size : W.heap.size ≤ W'.heap.size
  block : ∀ k, k < W.heap.size → (k < lo ∨ hi ≤ k) → W'.heap[k]? = W.heap[k]?
theorem OnlyM.refl (W : World) (lo hi : Nat) : OnlyM W W lo hi := ⟨rfl, rfl, rfl, Nat.le_refl _, fun _ _ _ => rfl⟩
theorem OnlyM.trans {W W1 W2 : World} {lo hi : Nat} (h : OnlyM W W1 lo hi) (h' : OnlyM W1 W2 lo hi) : OnlyM W W2 lo hi :=
  ⟨h'.os.trans h.os, h'.tape.trans h.tape, h'.output.trans h.output, Nat.le_trans h.size h'.size, fun k hk hd => (h'.block k (Nat.lt_of_lt_of_le hk h.size) hd).trans (h.block k hk hd)⟩
theorem OnlyM.of {W W' : World} {lo hi lo' hi' : Nat} (h : OnlyIn W W' lo hi) (hl : lo' ≤ lo) (hh : hi ≤ hi') : OnlyM W W' lo' hi' := by
  obtain ⟨row, hg, hr⟩ := h
  exact ⟨hg.os, hg.tape, hg.output, hg.size, fun k hk hd => hg.block k hk (fun e => by have := hr k e.symm; omega)⟩
theorem OnlyM.ofBelow {W W' : World} {lo hi : Nat} (h : Below W.heap.size W W') : OnlyM W W' lo hi := ⟨h.os, h.tape, h.output, h.size, fun k hk _ => h.block k hk⟩
theorem OnlyM.below {W W' : World} {lo hi B : Nat} (h : OnlyM W W' lo hi) (hB : B ≤ lo) (hs : B ≤ W.heap.size) : Below B W W' :=
  ⟨h.os, h.tape, h.output, h.size, fun k hk => h.block k (by omega) (Or.inl (by omega))⟩
theorem MBox.onlyM {W W' : World} {lo hi p : Nat} {b : Int} {s : Nat → Option Addr} {n : Nat} {c : Nat → Nat} (h : MBox W p b s n c) (ho : OnlyM W W' lo hi) (hp : p < lo ∨ hi ≤ p) : MBox W' p b s n c := by
  unfold MBox
  rw [ho.block p h.lt hp]
  exact h
theorem MBox.only {W W' : World} {lo hi p : Nat} {b : Int} {s : Nat → Option Addr} {n : Nat} {c : Nat → Nat} (h : MBox W p b s n c) (ho : OnlyIn W W' lo hi) (hp : p < lo ∨ hi ≤ p) : MBox W' p b s n c := h.onlyM (OnlyM.of ho (Nat.le_refl _) (Nat.le_refl _)) hp
theorem CSl.onlyM {W W' : World} {lo hi lo' hi' n : Nat} {sa : Option Addr} {f : Nat → Cel} (h : CSl W lo hi sa n f) (ho : OnlyM W W' lo' hi') (hd : hi ≤ lo' ∨ hi' ≤ lo) : CSl W' lo hi sa n f := by
  rcases h with h | ⟨g, h1, h2, h4, h⟩
  · exact Or.inl h
  · have hb := ho.block g h.lt (by omega)
    refine Or.inr ⟨g, h1, h2, h4, ⟨Nat.lt_of_lt_of_le h.lt ho.size, fun i hi => ⟨?_, ?_, ?_⟩, fun i hi => ?_⟩⟩
    · have := (h.at' i hi).c0
      simpa [World.cell?, hb] using this
    · have := (h.at' i hi).c1
      simpa [World.cell?, hb] using this
    · have := (h.at' i hi).c2
      simpa [World.cell?, hb] using this
    · have := h.free i hi
      simpa [World.frozen?, hb] using this
theorem Slice.onlyM {W W' : World} {lo hi lo' hi' n : Nat} {sa : Option Addr} {f : Nat → Int} (h : Slice W lo hi sa n f) (ho : OnlyM W W' lo' hi') (hd : hi ≤ lo' ∨ hi' ≤ lo) : Slice W' lo hi sa n f := by
  rcases h with h | ⟨g, h1, h2, h4, h3⟩
  · exact Or.inl h
  · refine Or.inr ⟨g, h1, h2, h4, ?_⟩
    have hb := ho.block g h3.1 (by omega)
    refine ⟨Nat.lt_of_lt_of_le h3.1 ho.size, fun i hi => ?_, fun i hi => ?_⟩
    · have := h3.2.1 i hi
      simpa [World.cell?, hb] using this
    · have := h3.2.2 i hi
      simpa [World.frozen?, hb] using this
/-- Five rows, each in a stretch of blocks of its own. -/
structure MSl (W : World) (h : Nat → Nat) (s : Nat → Option Addr) (n : Nat) (F : Nat → Nat → Int) : Prop where
  r0 : Slice W (h 0) (h 1) (s 0) n (F 0)
  r1 : Slice W (h 1) (h 2) (s 1) n (F 1)
  r2 : Slice W (h 2) (h 3) (s 2) n (F 2)
  r3 : Slice W (h 3) (h 4) (s 3) n (F 3)
  r4 : Slice W (h 4) (h 5) (s 4) n (F 4)
  up : h 0 ≤ h 1 ∧ h 1 ≤ h 2 ∧ h 2 ≤ h 3 ∧ h 3 ≤ h 4 ∧ h 4 ≤ h 5
theorem MSl.kept {W W' : World} {h : Nat → Nat} {s : Nat → Option Addr} {n : Nat} {F : Nat → Nat → Int} (m : MSl W h s n F) (hb : Below W.heap.size W W') : MSl W' h s n F :=
  ⟨m.r0.kept hb rfl, m.r1.kept hb rfl, m.r2.kept hb rfl, m.r3.kept hb rfl, m.r4.kept hb rfl, m.up⟩
theorem MSl.onlyM {W W' : World} {lo hi : Nat} {h : Nat → Nat} {s : Nat → Option Addr} {n : Nat} {F : Nat → Nat → Int} (m : MSl W h s n F) (ho : OnlyM W W' lo hi) (hd : h 5 ≤ lo ∨ hi ≤ h 0) : MSl W' h s n F := by
  have := m.up
  exact ⟨m.r0.onlyM ho (by omega), m.r1.onlyM ho (by omega), m.r2.onlyM ho (by omega), m.r3.onlyM ho (by omega), m.r4.onlyM ho (by omega), m.up⟩
theorem MSl.only {W W' : World} {lo hi : Nat} {h : Nat → Nat} {s : Nat → Option Addr} {n : Nat} {F : Nat → Nat → Int} (m : MSl W h s n F) (ho : OnlyC W W' lo hi) (hd : h 5 ≤ lo ∨ hi ≤ h 0) : MSl W' h s n F := by
  obtain ⟨row, hg, hr⟩ := ho
  exact m.onlyM (OnlyM.of ⟨row, hg, hr⟩ (Nat.le_refl _) (Nat.le_refl _)) hd
/-- Five vectors in new memory. -/
def NewMasks (w : World) (b : Int) (n : Nat) (F : Nat → Nat → Int) (e : Ending) (w' : World) : Prop :=
  ∃ (s : Nat → Option Addr) (c : Nat → Nat) (h : Nat → Nat), e = .returned (masksV b s n c) ∧ Below w.heap.size w w' ∧ MSl w' h s n F ∧ w.heap.size ≤ h 0 ∧ h 5 ≤ w'.heap.size
/-- Five addresses. -/
def five {α : Type} (a0 a1 a2 a3 a4 : α) : Nat → α := fun i => match i with
  | 0 => a0
  | 1 => a1
  | 2 => a2
  | 3 => a3
  | _ => a4
theorem OnlyM.setS {W W' : World} {lo hi : Nat} {p : Addr} {v : Value} (h : OnlyM W W' lo hi) (h1 : lo ≤ p.block) (h2 : p.block < hi) : OnlyM W (W'.setCell p v) lo hi :=
  ⟨h.os, h.tape, h.output, by simpa [World.setCell] using h.size, fun k hk hd => by rw [Below.heap_setCell _ _ _ _ (fun e => by omega)]; exact h.block k hk hd⟩
end Go.Proofs.Ytbdjjggaahjjpaa
