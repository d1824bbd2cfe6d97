/- What is said here: rows of atoms in a stretch of blocks; how calls leave them.
   What is said here: blocks of a stretch turned, none besides.
   What is said here: slices of windows in memory that are read.
   What is proved here: the specification's BackRun tells the ends of the windows that go with the cells, in order, in new memory; nothing that was there turns. -/
import Derived.Test.YtfeolbgenpknfaaGreatQAtomDToPatM
import Derived.Test.YtfeolbgenpknfaaGreatQIntRowWToSpecGoesW
import Derived.Deep.RegionWith
import Derived.Test.YtfeolbgenpknfaaGreatQSpecWinW
import Derived.Test.YtfeolbgenpknfaaGreatQImplBackW
namespace Go.Proofs.YtfeolbgenpknfaaGreat
open Go.RowKit

/-- Some block of a stretch turned, no other. -/
def OnlyA (W W' : World) (lo hi : Nat) : Prop := ∃ row : Option Nat, W.grownBy W' row ∧ ∀ g, row = some g → lo ≤ g ∧ g < hi
theorem OnlyA.below {W W' : World} {lo hi B : Nat} (h : OnlyA W W' lo hi) (hB : B ≤ lo) (hs : B ≤ W.heap.size) : Below B W W' := by
  obtain ⟨row, hg, hr⟩ := h
  exact ⟨hg.os, hg.tape, hg.output, hg.size, fun k hk => hg.block k (by omega) (fun e => by have := hr k e.symm; omega)⟩
theorem OnlyA.size {W W' : World} {lo hi : Nat} (h : OnlyA W W' lo hi) : W.heap.size ≤ W'.heap.size := by
  obtain ⟨row, hg, hr⟩ := h
  exact hg.size
/-- A row of atoms in a stretch of blocks. -/
def ASl (W : World) (lo hi : Nat) (sa : Option Addr) (n : Nat) (f : Nat → Atm) : Prop := n = 0 ∨ ∃ g, sa = some ⟨g, 0, none⟩ ∧ lo ≤ g ∧ g < hi ∧ AOwn W g n f
theorem ASl.row {W : World} {lo hi n : Nat} {sa : Option Addr} {f : Nat → Atm} (h : ASl W lo hi sa n f) : ARow W W.heap.size sa n f := by
  rcases h with h | ⟨g, rfl, _, _, h3⟩
  · exact Or.inl h
  · exact h3.row h3.lt
theorem ASl.kept {W W' : World} {lo hi n : Nat} {sa : Option Addr} {f : Nat → Atm} (h : ASl W lo hi sa n f) (hb : Below W.heap.size W W') : ASl W' lo hi sa n f := by
  rcases h with h | ⟨g, h1, h2, h4, h3⟩
  · exact Or.inl h
  · exact Or.inr ⟨g, h1, h2, h4, h3.kept hb h3.lt⟩
theorem AOwn.other {W W' : World} {g n : Nat} {row : Option Nat} {f : Nat → Atm} (h : AOwn W g n f) (hg : W.grownBy W' row) (hne : row ≠ some g) : AOwn W' g n f := by
  have hb := hg.block g h.lt (fun e => hne e.symm)
  refine ⟨Nat.lt_of_lt_of_le h.lt hg.size, fun i hi => ⟨?_, ?_, ?_⟩, fun i hi => ?_⟩
  · have := (h.at' i hi).c0
    simpa [World.cell?, hb] using this
  · have := (h.at' i hi).c1
    simpa [World.cell?, hb] using this
  · have := (h.at' i hi).c2
    simpa [World.cell?, hb] using this
  · have := h.free i hi
    simpa [World.frozen?, hb] using this
theorem ASl.only {W W' : World} {lo hi lo' hi' n : Nat} {sa : Option Addr} {f : Nat → Atm} (h : ASl W lo hi sa n f) (ho : OnlyA W W' lo' hi') (hd : hi ≤ lo' ∨ hi' ≤ lo) : ASl W' lo hi sa n f := by
  rcases h with h | ⟨g, h1, h2, h4, h3⟩
  · exact Or.inl h
  · obtain ⟨row, hg, hr⟩ := ho
    exact Or.inr ⟨g, h1, h2, h4, h3.other hg (fun e => by have := hr g e; omega)⟩
/-- A slice of atoms in new memory. -/
def NewAtoms (w : World) (n : Nat) (f : Nat → Atm) (e : Ending) (w' : World) : Prop := ∃ (sa : Option Addr) (cap : Nat), e = .returned (.slice sa n cap) ∧ Below w.heap.size w w' ∧ ASl w' w.heap.size w'.heap.size sa n f
theorem grown_of_below {w w' : World} {row : Option Nat} (h : Below w.heap.size w w') : w.grownBy w' row := ⟨h.os, h.tape, h.output, h.size, fun k hk _ => h.block k hk⟩
end Go.Proofs.YtfeolbgenpknfaaGreat
namespace Go.Proofs.YtfeolbgenpknfaaGreat
open Go.RowKit

/-- Blocks from lo on and below hi may have turned, none besides; new ones may have come. -/
structure OnlyB (W W' : World) (lo hi : Nat) : Prop where
  os : W'.os = W.os
  tape : W'.tape = W.tape
  output : W'.output = W.output
  size : W.heap.size ≤ W'.heap.size
  block : ∀ k, k < W.heap.size → (k < lo ∨ hi ≤ k) → W'.heap[k]? = W.heap[k]?
theorem OnlyB.refl (W : World) (lo hi : Nat) : OnlyB W W lo hi := ⟨rfl, rfl, rfl, Nat.le_refl _, fun _ _ _ => rfl⟩
theorem OnlyB.trans {W W1 W2 : World} {lo hi : Nat} (h : OnlyB W W1 lo hi) (h' : OnlyB W1 W2 lo hi) : OnlyB W W2 lo hi :=
  ⟨h'.os.trans h.os, h'.tape.trans h.tape, h'.output.trans h.output, Nat.le_trans h.size h'.size, fun k hk hd => (h'.block k (Nat.lt_of_lt_of_le hk h.size) hd).trans (h.block k hk hd)⟩
theorem OnlyA.wideB {W W' : World} {lo hi lo' hi' : Nat} (h : OnlyA W W' lo hi) (hl : lo' ≤ lo) (hh : hi ≤ hi') : OnlyB W W' lo' hi' := by
  obtain ⟨row, hg, hr⟩ := h
  exact ⟨hg.os, hg.tape, hg.output, hg.size, fun k hk hd => hg.block k hk (fun e => by have := hr k e.symm; omega)⟩
theorem OnlyB.below {W W' : World} {lo hi B : Nat} (h : OnlyB W W' lo hi) (hB : B ≤ lo) (hs : B ≤ W.heap.size) : Below B W W' :=
  ⟨h.os, h.tape, h.output, h.size, fun k hk => h.block k (by omega) (Or.inl (by omega))⟩
end Go.Proofs.YtfeolbgenpknfaaGreat
namespace Go.Proofs.YtfeolbgenpknfaaGreat
open Go.RowKit

/-- Three numbers lie at a place. -/
structure TriAt (w : World) (b o : Nat) (a : Int × Int × Int) : Prop where
  c0 : w.cell? ⟨b, o, none⟩ = some (.int .i64 a.1)
  c1 : w.cell? ⟨b, o + 1, none⟩ = some (.int .i64 a.2.1)
  c2 : w.cell? ⟨b, o + 2, none⟩ = some (.int .i64 a.2.2)
theorem TriAt.same {w w' : World} {b o : Nat} {a : Int × Int × Int} (h : TriAt w b o a) (hc : ∀ o, w'.cell? ⟨b, o, none⟩ = w.cell? ⟨b, o, none⟩) : TriAt w' b o a := ⟨(hc _).trans h.c0, (hc _).trans h.c1, (hc _).trans h.c2⟩
/-- A slice of triples of numbers that is read. -/
def WRow (w : World) (B : Nat) (sa : Option Addr) (n : Nat) (f : Nat → Int × Int × Int) : Prop := n = 0 ∨ ∃ bb off : Nat, sa = some ⟨bb, off, none⟩ ∧ bb < B ∧ ∀ i, i < n → TriAt w bb (off + i * 3) (f i)
/-- A block of triples of numbers that may be written. -/
structure WOwn (w : World) (g n : Nat) (f : Nat → Int × Int × Int) : Prop where
  lt : g < w.heap.size
  at' : ∀ i, i < n → TriAt w g (i * 3) (f i)
  free : ∀ i, w.frozen? ⟨g, i, none⟩ = false
/-- A slice of triples in a stretch of blocks. -/
def WSl (W : World) (lo hi : Nat) (sa : Option Addr) (n : Nat) (f : Nat → Int × Int × Int) : Prop := n = 0 ∨ ∃ g, sa = some ⟨g, 0, none⟩ ∧ lo ≤ g ∧ g < hi ∧ WOwn W g n f
theorem WSl.row {W : World} {lo hi n : Nat} {sa : Option Addr} {f : Nat → Int × Int × Int} (h : WSl W lo hi sa n f) : WRow W W.heap.size sa n f := by
  rcases h with h | ⟨g, rfl, _, _, h3⟩
  · exact Or.inl h
  · exact Or.inr ⟨g, 0, rfl, h3.lt, fun i hi => by rw [Nat.zero_add]; exact h3.at' i hi⟩
theorem WOwn.same {W W' : World} {g n : Nat} {f : Nat → Int × Int × Int} (h : WOwn W g n f) (hs : W.heap.size ≤ W'.heap.size) (hb : W'.heap[g]? = W.heap[g]?) : WOwn W' g n f :=
  ⟨Nat.lt_of_lt_of_le h.lt hs, fun i hi => (h.at' i hi).same (fun o => by simp [World.cell?, hb]), fun i => by have := h.free i; simpa [World.frozen?, hb] using this⟩
theorem WSl.kept {W W' : World} {lo hi n : Nat} {sa : Option Addr} {f : Nat → Int × Int × Int} (h : WSl W lo hi sa n f) (hb : Below W.heap.size W W') : WSl W' lo hi sa n f := by
  rcases h with h | ⟨g, h1, h2, h4, h3⟩
  · exact Or.inl h
  · exact Or.inr ⟨g, h1, h2, h4, h3.same hb.size (hb.block g h3.lt)⟩
theorem WSl.onlyA {W W' : World} {lo hi lo' hi' n : Nat} {sa : Option Addr} {f : Nat → Int × Int × Int} (h : WSl W lo hi sa n f) (ho : OnlyA W W' lo' hi') (hd : hi ≤ lo' ∨ hi' ≤ lo) : WSl W' lo hi sa n f := by
  have hB := ho.wideB (Nat.le_refl _) (Nat.le_refl _)
  rcases h with h | ⟨g, h1, h2, h4, h3⟩
  · exact Or.inl h
  · exact Or.inr ⟨g, h1, h2, h4, h3.same hB.size (hB.block g h3.lt (by omega))⟩
theorem wcells_len : ∀ l, (wcells l).length = l.length * 3
  | [] => rfl
  | x :: l => by show (wcells l).length + 1 + 1 + 1 = (l.length + 1) * 3; rw [wcells_len l]; omega
theorem wcells_get : ∀ (l : List (Nat × Nat × Nat)) (i : Nat), i < l.length → (wcells l)[i * 3]? = some (.int .i64 ((l.getD i (0, 0, 0)).1 : Int)) ∧ (wcells l)[i * 3 + 1]? = some (.int .i64 ((l.getD i (0, 0, 0)).2.1 : Int)) ∧ (wcells l)[i * 3 + 2]? = some (.int .i64 ((l.getD i (0, 0, 0)).2.2 : Int))
  | [], i, h => by simp at h
  | x :: l, 0, _ => ⟨rfl, rfl, rfl⟩
  | x :: l, i + 1, h => by
    have h1 := wcells_get l i (by simpa using h)
    have e1 : (i + 1) * 3 = i * 3 + 1 + 1 + 1 := by omega
    rw [e1]
    exact h1
/-- The triples of a list of windows. -/
def triplesL (L : List (Nat × Nat × Nat)) (i : Nat) : Int × Int × Int := (((L.getD i (0, 0, 0)).1 : Int), ((L.getD i (0, 0, 0)).2.1 : Int), ((L.getD i (0, 0, 0)).2.2 : Int))
theorem wins_sl {W : World} {base : Nat} {v : Value} {L : List (Nat × Nat × Nat)} (h : OwnsW W base v L) : ∃ (sa : Option Addr) (cap : Nat), v = .slice sa L.length cap ∧ WSl W base W.heap.size sa L.length (triplesL L) := by
  obtain ⟨_, ⟨rfl, hx⟩ | ⟨g, cap, cur, rfl, hg, hh, hnc, hm, hs, ht⟩⟩ := h
  · have : L.length = 0 := hx
    rw [this]
    exact ⟨none, 0, rfl, Or.inl rfl⟩
  · refine ⟨_, _, rfl, Or.inr ⟨g, rfl, hg, lt_of_block hh, lt_of_block hh, fun i hi => ?_, fun i => frozen_of_row _ _ _ _ _ hh⟩⟩
    have hc : ∀ j, j < L.length * 3 → W.cell? ⟨g, j, none⟩ = (wcells L)[j]? := fun j hj => by
      rw [← ht, List.getElem?_take_of_lt (by omega)]
      simp [World.cell?, hh]
    obtain ⟨h1, h2, h3⟩ := wcells_get L i hi
    exact ⟨by rw [hc _ (by omega)]; exact h1, by rw [hc _ (by omega)]; exact h2, by rw [hc _ (by omega)]; exact h3⟩
theorem NewWins.sl {w w' : World} {L : List (Nat × Nat × Nat)} {e : Ending} (h : NewWins w L e w') : ∃ (sa : Option Addr) (cap : Nat), e = .returned (.slice sa L.length cap) ∧ Below w.heap.size w w' ∧ WSl w' w.heap.size w'.heap.size sa L.length (triplesL L) := by
  obtain ⟨v, rfl, hb, ho⟩ := h
  obtain ⟨sa, cap, rfl, hs⟩ := wins_sl ho
  exact ⟨sa, cap, rfl, hb, hs⟩
theorem WRow.at {w w' : World} {n k : Nat} {sa : Option Addr} {f : Nat → Int × Int × Int} (h : WRow w w.heap.size sa n f) (hb : Below w.heap.size w w') (hk : k < n) : ∃ bb off : Nat, sa = some ⟨bb, off, none⟩ ∧ bb < w.heap.size ∧ TriAt w' bb (off + k * 3) (f k) := by
  rcases h with h | ⟨bb, off, h1, h2, h3⟩
  · omega
  · exact ⟨bb, off, h1, h2, (h3 k hk).same (fun o => hb.cell (p := ⟨bb, o, none⟩) h2)⟩
end Go.Proofs.YtfeolbgenpknfaaGreat
namespace Go.Proofs.YtfeolbgenpknfaaGreat
open Go.RowKit

theorem whole_iff {n : Nat} {f : Nat → Cel} {t : ByteArray} {hn : n ≤ 60} {i : Nat} (h : posW n f t hn i + n ≤ t.size) : (winW n f t hn i).2 = true ↔ GoesP n f (t.extract (posW n f t hn i) (posW n f t hn i + n)) 0 := by
  have hz := piece_size h
  have hl := lookN f (pieceT n t (posW n f t hn i)) hn
  show fcN n f (pieceT n t (posW n f t hn i)) hn = true ↔ GoesP n f (pieceT n t (posW n f t hn i)) 0
  rw [hl.fac]
  refine ⟨fun ⟨p, hp⟩ => ?_, fun h => ⟨0, goesP_iff.1 h⟩⟩
  have h1 := hp.2.1
  have : p = 0 := by omega
  subst this
  exact goesP_iff.2 hp
theorem endsW_take (n : Nat) (f : Nat → Cel) (t : ByteArray) (hn : n ≤ 60) (j : Nat) : endsW n (uptoW n f t hn (j + 1)) = endsW n (uptoW n f t hn j) ++ (if (winW n f t hn j).2 = true then [((posW n f t hn j + n : Nat) : Int)] else []) := by
  rw [uptoW_succ]
  by_cases h : (winW n f t hn j).2 = true
  · rw [endsW_yes h, if_pos h]
    rfl
  · rw [endsW_no (by simpa using h), if_neg h, List.append_nil]
theorem triples_at {n : Nat} {f : Nat → Cel} {t : ByteArray} {hn : n ≤ 60} {k j : Nat} (h : j < k) : (triplesL ((uptoW n f t hn k).map Prod.fst) j).1 = ((posW n f t hn j : Nat) : Int) := by
  unfold triplesL uptoW
  simp [List.getD, h]
  rfl
theorem rows_apart {W : World} {b1 b2 s1 s2 n1 n2 : Nat} {e1 e2 : TypeId} {v1 v2 : Value} {x1 x2 : List Value} (h : W.ownsRow b1 e1 s1 v1 n1 x1) (h' : W.ownsRow b2 e2 s2 v2 n2 x2) (hne : e1 ≠ e2) : v1.ownBlock = none ∨ v1.ownBlock ≠ v2.ownBlock := by
  rcases h.2 with ⟨rfl, _⟩ | ⟨g, cap, cur, rfl, _, hh, _⟩
  · exact .inl rfl
  · refine .inr (fun e => ?_)
    rcases h'.2 with ⟨rfl, _⟩ | ⟨g', cap', cur', rfl, _, hh', _⟩
    · simp [Value.ownBlock] at e
    · simp [Value.ownBlock] at e
      subst e
      rw [hh] at hh'
      injection hh' with h9
      injection h9 with _ h10 _
      exact hne h10
open Classical in
set_option maxRecDepth 100000 in
set_option maxHeartbeats 4000000 in
theorem specBack_yes (sa : Option Addr) (n cap : Nat) (f : Nat → Cel) (t : ByteArray) (w : World) (hn : n ≤ maxLen) (hr : CRow w w.heap.size sa n f) (hc : ∀ i, i < n → (f i).c.size ≤ maxLen) (ht : t.size ≤ 8000) (h60 : n ≤ 60) (hP : PlainP n f) :
    Calls Tryz.prog 15 #[.slice sa n cap, .string t] w fun e w' => ∃ k, LastW n f t h60 k ∧ NewL w (endsW n (uptoW n f t h60 k)) e w' := by
  obtain ⟨i0, hi, hz0, hz1, hz2⟩ := info_parts Tryz.numInfo
  have hn1 := hP.1.1
  have HG : Hid (∀ (u : ByteArray), u.size ≤ 8000 → ∀ W, Below w.heap.size w W → Calls Tryz.prog 45 #[.slice sa n cap, .int .i64 0, .string u] W fun e w' => e = .returned (.bool (decide (GoesP n f u 0))) ∧ Below W.heap.size W w') := fun u hu W hW => l09Goes_any sa n cap f 0 u W h60 (by omega) hu ((hr.kept hW).up hW.size) (cels_max hP.1)
  have hba : Below w.heap.size w (w.alloc (.cells #[] 2)) := (Below.refl _ w).alloc (Nat.le_refl _) _
  have HOA : Hid ((w.alloc (.cells #[] 2)).ownsRow w.heap.size 2 1 (.slice (some ⟨w.heap.size, 0, none⟩) 0 0) 0 []) := ints_start w w.heap.size (Nat.le_refl _) #[] rfl
  have CW := specWin_yes sa n cap f t _ hn ((hr.kept hba).up hba.size) hc ht h60 hP
  have HBA : Hid (Below w.heap.size w (w.alloc (.cells #[] 2))) := hba
  clear hr hc hP hba
  go_enter Tryz.func15, Tryz.ntmps15
  go_wp2_with fail
  refine CW.mono ?_
  rintro e w1 ⟨k, hk, hNW⟩
  obtain ⟨vW, rfl, hb, howW⟩ := hNW
  obtain ⟨sW, cW, rfl, _⟩ := wins_sl howW
  have HK : Hid (LastW n f t h60 k) := hk
  have HB1 : Hid (Below w.heap.size w w1) := HBA.out.trans (hb.mono HBA.out.size)
  have HO1 : Hid (w1.ownsRow w.heap.size 2 1 (.slice (some ⟨w.heap.size, 0, none⟩) 0 0) 0 []) := ints_below HOA.out hb rfl
  rw [List.length_map, uptoW_len] at howW ⊢
  have HW1 : Hid (OwnsW w1 (w.alloc (.cells #[] 2)).heap.size (.slice sW k cW) ((uptoW n f t h60 k).map Prod.fst)) := howW
  have HKL : Hid (k ≤ 8000) := by
    show k ≤ 8000
    rcases Nat.eq_zero_or_pos k with h0 | h0
    · omega
    · have h2 := hk.1 (k - 1) (by omega)
      have h3 := posW_ge (f := f) (t := t) (hn := h60) hn1 (k - 1)
      omega
  clear hb howW CW hk HBA HOA
  obtain ⟨bA, hbA⟩ : ∃ bA, (w.alloc (.cells #[] 2)).heap.size = bA := ⟨_, rfl⟩
  rw [hbA] at HW1
  clear hbA
  go_wp2_with fail
  go_loopw [5, 8] (fun v iv wr => ∃ j : Nat, j ≤ k ∧ iv = .int .i64 (j : Int) ∧ wr.ownsRow w.heap.size 2 1 v (endsW n (uptoW n f t h60 j)).length (icells (endsW n (uptoW n f t h60 j))) ∧ OwnsW wr bA (.slice sW k cW) ((uptoW n f t h60 k).map Prod.fst) ∧ Below w.heap.size w wr) (fun _ iv _ => k - (intOf iv).toNat)
  case atStart => exact ⟨0, Nat.zero_le _, rfl, HO1.out, HW1.out, HB1.out⟩
  case round =>
    obtain ⟨j, hj, rfl, hown, howW, hbel⟩ := hrel
    have HO : Hid (wr.ownsRow w.heap.size 2 1 u5 (endsW n (uptoW n f t h60 j)).length (icells (endsW n (uptoW n f t h60 j)))) := hown
    have HW : Hid (OwnsW wr bA (.slice sW k cW) ((uptoW n f t h60 k).map Prod.fst)) := howW
    have HB : Hid (Below w.heap.size w wr) := hbel
    clear hown hbel
    by_cases hjk : j < k
    · have hji : (j : Int) < (k : Int) := by omega
      have hj0 : (0 : Int) ≤ (j : Int) := by omega
      obtain ⟨sa9, cap9, he9, hsl9⟩ := wins_sl howW
      have hrow := hsl9.row
      rw [List.length_map, uptoW_len] at hrow he9
      injection he9 with he1 he2 he3
      subst he1
      obtain ⟨bb, off, rfl, hbb, hat⟩ := hrow.at (Below.refl _ _) hjk
      have c0 := hat.1
      rw [triples_at hjk] at c0
      have hle := HK.out.1 j hjk
      have HWH : Hid ((winW n f t h60 j).2 = true ↔ GoesP n f (t.extract (posW n f t h60 j) (posW n f t h60 j + n)) 0) := whole_iff hle
      have HTK := endsW_take n f t h60 j
      have HTK2 : Hid (endsW n (uptoW n f t h60 (j + 1)) = endsW n (uptoW n f t h60 j) ++ (if (winW n f t h60 j).2 = true then [((posW n f t h60 j + n : Nat) : Int)] else [])) := HTK
      obtain ⟨a, ha⟩ : ∃ a, posW n f t h60 j = a := ⟨_, rfl⟩
      rw [ha] at c0 hle HWH HTK2
      obtain ⟨q, hq⟩ : ∃ q, a + n = q := ⟨_, rfl⟩
      rw [hq] at hle HWH HTK2
      have hqi : (a : Int) + (n : Int) = (q : Int) := by omega
      have ha0 : (0 : Int) ≤ (a : Int) := by omega
      have hwq : IntKind.i64.wrap (q : Int) = (q : Int) := by rw [IntKind.wrap_i64] <;> omega
      have hqt : (q : Int) ≤ (t.size : Int) := by omega
      have hsl := slice_piece t a q (by omega) hle
      have C : Hid (∀ W, Below w.heap.size w W → Calls Tryz.prog 45 #[.slice sa n cap, .int .i64 0, .string (t.extract a q)] W fun e w' => e = .returned (.bool (decide (GoesP n f (t.extract a q) 0))) ∧ Below W.heap.size W w') := fun W hW => HG.out _ (by rw [cut_size hle]; omega) W hW
      obtain ⟨y, hy⟩ : ∃ y, decide (GoesP n f (t.extract a q) 0) = y := ⟨_, rfl⟩
      have HY : Hid (y = (winW n f t h60 j).2) := by
        show _ = _
        rw [← hy]
        cases hw : (winW n f t h60 j).2 with
        | true => exact decide_eq_true (HWH.out.1 hw)
        | false => exact decide_eq_false (fun h => by have := HWH.out.2 h; rw [hw] at this; cases this)
      rw [hy] at C
      obtain ⟨p9, hp9⟩ : ∃ p9, off + j * 3 = p9 := ⟨_, rfl⟩
      rw [hp9] at c0
      have HC0 : Hid (wr.cell? ⟨bb, p9, none⟩ = some (.int .i64 (a : Int))) := c0
      clear HTK ha hq hat hrow hsl9 howW he2 he3 hy
      go_wp2_with fail
      go_region_held3 (fun V => V.cell? ⟨bb, p9, none⟩ = some (.int .i64 (a : Int))) (go_keep) (first | (go_at_call 45; (with_reducible refine (C.out _ (by first | exact HB.out.drew | exact HB.out)).mono ?_); rintro e w1 ⟨rfl, hb⟩; have HB1 : Hid (Below wr.heap.size wr w1) := (by first | exact ((Below.refl wr.heap.size wr).drew).trans hb | exact hb); have d0 : w1.cell? ⟨bb, p9, none⟩ = some (.int .i64 (a : Int)) := (by rw [HB1.out.cell (p := ⟨bb, p9, none⟩) hbb]; exact HC0.out); clear hb))
      have HB2 : Hid (Below w.heap.size w w1) := HB.out.trans (HB1.out.mono HB.out.size)
      have hown : w1.ownsRow w.heap.size 2 1 u5 (endsW n (uptoW n f t h60 j)).length (icells (endsW n (uptoW n f t h60 j))) := ints_below HO.out HB1.out rfl
      have HO2 : Hid (w1.ownsRow w.heap.size 2 1 u5 (endsW n (uptoW n f t h60 j)).length (icells (endsW n (uptoW n f t h60 j)))) := hown
      have HW2 : Hid (OwnsW w1 bA (.slice (some ⟨bb, off, none⟩) k cW) ((uptoW n f t h60 k).map Prod.fst)) := ints_below HW.out HB1.out rfl
      have hsz1 : w.heap.size ≤ w1.heap.size := HB2.out.size
      have hel := endsW_len n (uptoW n f t h60 j)
      rw [uptoW_len] at hel
      have hkl := HKL.out
      cases y with
      | false =>
        have hE : endsW n (uptoW n f t h60 (j + 1)) = endsW n (uptoW n f t h60 j) := by rw [HTK2.out, ← HY.out]; simp
        have HE : Hid (endsW n (uptoW n f t h60 (j + 1)) = endsW n (uptoW n f t h60 j)) := hE
        clear hE hown hel
        go_wp2_with fail
        go_roundw
        case rel => exact ⟨j + 1, by omega, by go_num, by rw [HE.out]; exact HO2.out, HW2.out, HB2.out⟩
        case measure => simp [intOf] <;> omega
      | true =>
        have hE : endsW n (uptoW n f t h60 (j + 1)) = endsW n (uptoW n f t h60 j) ++ [(q : Int)] := by rw [HTK2.out, ← HY.out]; simp
        have HE : Hid (endsW n (uptoW n f t h60 (j + 1)) = endsW n (uptoW n f t h60 j) ++ [(q : Int)]) := hE
        obtain ⟨le, hle9⟩ : ∃ le, endsW n (uptoW n f t h60 j) = le := ⟨_, rfl⟩
        rw [hle9] at hown hel HO2 HE
        clear hE hle9
        go_wp2_with (at_builtin; refine wpList_append_own _ rfl (.tmp 37) (.tmp 45) 26 rfl w.heap.size 2 i0 (.int .i64 0) 1 8 Tryz.underlying26 hi hz0 hz1 hz2 rfl (by decide) _ _ _ rfl (hown.alloc _) ⟨w1.heap.size, 0, none⟩ 1 1 [.int .i64 (q : Int)] rfl rfl ?c1 ?c2 ?c3 ?c4 ?c5 ?_)
        case c1 => exact cell1_new w1 _ _
        case c2 => intro u hu; simp at hu; rcases hu with rfl; rfl
        case c3 => unfold maxLen; omega
        case c4 => omega
        case c5 => simp; omega
        intro v' w2 hown2 hgrow _
        have HR2 : Hid (w2.ownsRow w.heap.size 2 1 v' (endsW n (uptoW n f t h60 (j + 1))).length (icells (endsW n (uptoW n f t h60 (j + 1))))) := by
          show w2.ownsRow _ _ _ _ _ _
          rw [HE.out, icells_append, List.length_append]
          exact hown2
        have HW3 : Hid (OwnsW w2 bA (.slice (some ⟨bb, off, none⟩) k cW) ((uptoW n f t h60 k).map Prod.fst)) := (World.ownsRow.alloc HW2.out _).kept hgrow (rows_apart HW2.out HO2.out (by decide))
        have HB3 : Hid (Below w.heap.size w w2) := by
          have h1 := HB2.out.alloc HB2.out.size (.cells #[.int .i64 (q : Int)] 2)
          refine h1.trans ⟨hgrow.os, hgrow.tape, hgrow.output, hgrow.size, fun g hg => hgrow.block g (Nat.lt_of_lt_of_le hg h1.size) (fun e => ?_)⟩
          have := (World.ownsRow.lt HO2.out g e.symm).1
          omega
        obtain ⟨g9, c9, rfl⟩ := ownsRow_succ hown2
        clear hown2 hgrow hown
        go_wp2_with fail
        go_roundw
        case rel => exact ⟨j + 1, by omega, by go_num, by simpa using HR2.out, HW3.out, HB3.out⟩
        case measure => simp [intOf] <;> omega
    · have hji : ¬ (j : Int) < (k : Int) := by omega
      obtain rfl : j = k := by omega
      clear howW
      go_wp2_with fail
      go_ret
      exact ⟨j, HK.out, new_of_ints HO.out HB.out⟩
set_option maxRecDepth 100000 in
set_option maxHeartbeats 2000000 in
theorem specBack_no (sa : Option Addr) (n cap : Nat) (f : Nat → Cel) (t : ByteArray) (w : World) (hn : n ≤ maxLen) (hr : CRow w w.heap.size sa n f) (hc : ∀ i, i < n → (f i).c.size ≤ maxLen) (ht : t.size ≤ maxLen) (hP : ¬ (t.size ≤ 8000 ∧ PlainP n f)) :
    Calls Tryz.prog 15 #[.slice sa n cap, .string t] w fun e w' => NewL w [] e w' := by
  unfold maxLen at hn
  have hba : Below w.heap.size w (w.alloc (.cells #[] 2)) := (Below.refl _ w).alloc (Nat.le_refl _) _
  have HOA : Hid ((w.alloc (.cells #[] 2)).ownsRow w.heap.size 2 1 (.slice (some ⟨w.heap.size, 0, none⟩) 0 0) 0 []) := ints_start w w.heap.size (Nat.le_refl _) #[] rfl
  have CW := specWin_any sa n cap f t _ hn ((hr.kept hba).up hba.size) hc ht
  have HBA : Hid (Below w.heap.size w (w.alloc (.cells #[] 2))) := hba
  clear hr hc hba
  unfold maxLen at ht
  go_enter Tryz.func15, Tryz.ntmps15
  go_wp2_with fail
  refine CW.mono ?_
  rintro e w1 ⟨L, hL, hNW⟩
  obtain rfl := hL.2 hP
  obtain ⟨vW, rfl, hb, howW⟩ := hNW
  obtain ⟨sW, cW, rfl, _⟩ := wins_sl howW
  have HB1 : Hid (Below w.heap.size w w1) := HBA.out.trans (hb.mono HBA.out.size)
  have HO1 : Hid (w1.ownsRow w.heap.size 2 1 (.slice (some ⟨w.heap.size, 0, none⟩) 0 0) 0 []) := ints_below HOA.out hb rfl
  clear hb howW CW HBA HOA hL hP
  rw [List.length_nil]
  go_wp2_with fail
  go_loopw [5, 8] (fun v iv wr => v = .slice (some ⟨w.heap.size, 0, none⟩) 0 0 ∧ iv = .int .i64 0 ∧ wr = w1) (fun _ _ _ => 0)
  case atStart => exact ⟨rfl, rfl, rfl⟩
  case round =>
    obtain ⟨rfl, rfl, rfl⟩ := hrel
    go_wp2_with fail
    go_ret
    exact new_of_ints (l := []) HO1.out HB1.out
theorem specBack_any (sa : Option Addr) (n cap : Nat) (f : Nat → Cel) (t : ByteArray) (w : World) (hn : n ≤ maxLen) (hr : CRow w w.heap.size sa n f) (hc : ∀ i, i < n → (f i).c.size ≤ maxLen) (ht : t.size ≤ maxLen) :
    Calls Tryz.prog 15 #[.slice sa n cap, .string t] w fun e w' => ∃ l, EndsB n f t l ∧ NewL w l e w' := by
  by_cases hh : t.size ≤ 8000 ∧ PlainP n f
  · refine (specBack_yes sa n cap f t w hn hr hc hh.1 hh.2.1.2.1 hh.2).mono ?_
    rintro e w' ⟨k, hk, h9⟩
    exact ⟨_, ⟨fun _ => ⟨hh.2.1.2.1, k, hk, rfl⟩, fun h => absurd hh h⟩, h9⟩
  · exact (specBack_no sa n cap f t w hn hr hc ht hh).mono (fun e w' h9 => ⟨[], ⟨fun h => absurd h hh, fun _ => rfl⟩, h9⟩)
end Go.Proofs.YtfeolbgenpknfaaGreat
