/- What is said here: rows of atoms in a stretch of blocks; how calls leave them.
   What is proved here: slices of atoms that are appended to.
   What is proved here: a pattern that is drawn is a slice of at most five small atoms in new memory; nothing turns but the source's own block. -/
import Derived.Test.YtfeolbgenpknfaaQAtomDToPatM
import Derived.Laws.AppendOwn
import Derived.Test.YtfeolbgenpknfaaQDrawAtomW
namespace Go.Proofs.Ytfeolbgenpknfaa
open Go.RowKit

/-- Some block of a stretch turned, no other. -/
def OnlyA (W W' : World) (lo hi : Nat) : Prop := ∃ row : Option Nat, W.grownBy W' row ∧ ∀ g, row = some g → lo ≤ g ∧ g < hi
theorem OnlyA.below {W W' : World} {lo hi B : Nat} (h : OnlyA W W' lo hi) (hB : B ≤ lo) (hs : B ≤ W.heap.size) : Below B W W' := by
  obtain ⟨row, hg, hr⟩ := h
  exact ⟨hg.os, hg.tape, hg.output, hg.size, fun k hk => hg.block k (by omega) (fun e => by have := hr k e.symm; omega)⟩
theorem OnlyA.size {W W' : World} {lo hi : Nat} (h : OnlyA W W' lo hi) : W.heap.size ≤ W'.heap.size := by
  obtain ⟨row, hg, hr⟩ := h
  exact hg.size
/-- A row of atoms in a stretch of blocks. -/
def ASl (W : World) (lo hi : Nat) (sa : Option Addr) (n : Nat) (f : Nat → Atm) : Prop := n = 0 ∨ ∃ g, sa = some ⟨g, 0, none⟩ ∧ lo ≤ g ∧ g < hi ∧ AOwn W g n f
theorem ASl.row {W : World} {lo hi n : Nat} {sa : Option Addr} {f : Nat → Atm} (h : ASl W lo hi sa n f) : ARow W W.heap.size sa n f := by
  rcases h with h | ⟨g, rfl, _, _, h3⟩
  · exact Or.inl h
  · exact h3.row h3.lt
theorem ASl.kept {W W' : World} {lo hi n : Nat} {sa : Option Addr} {f : Nat → Atm} (h : ASl W lo hi sa n f) (hb : Below W.heap.size W W') : ASl W' lo hi sa n f := by
  rcases h with h | ⟨g, h1, h2, h4, h3⟩
  · exact Or.inl h
  · exact Or.inr ⟨g, h1, h2, h4, h3.kept hb h3.lt⟩
theorem AOwn.other {W W' : World} {g n : Nat} {row : Option Nat} {f : Nat → Atm} (h : AOwn W g n f) (hg : W.grownBy W' row) (hne : row ≠ some g) : AOwn W' g n f := by
  have hb := hg.block g h.lt (fun e => hne e.symm)
  refine ⟨Nat.lt_of_lt_of_le h.lt hg.size, fun i hi => ⟨?_, ?_, ?_⟩, fun i hi => ?_⟩
  · have := (h.at' i hi).c0
    simpa [World.cell?, hb] using this
  · have := (h.at' i hi).c1
    simpa [World.cell?, hb] using this
  · have := (h.at' i hi).c2
    simpa [World.cell?, hb] using this
  · have := h.free i hi
    simpa [World.frozen?, hb] using this
theorem ASl.only {W W' : World} {lo hi lo' hi' n : Nat} {sa : Option Addr} {f : Nat → Atm} (h : ASl W lo hi sa n f) (ho : OnlyA W W' lo' hi') (hd : hi ≤ lo' ∨ hi' ≤ lo) : ASl W' lo hi sa n f := by
  rcases h with h | ⟨g, h1, h2, h4, h3⟩
  · exact Or.inl h
  · obtain ⟨row, hg, hr⟩ := ho
    exact Or.inr ⟨g, h1, h2, h4, h3.other hg (fun e => by have := hr g e; omega)⟩
/-- A slice of atoms in new memory. -/
def NewAtoms (w : World) (n : Nat) (f : Nat → Atm) (e : Ending) (w' : World) : Prop := ∃ (sa : Option Addr) (cap : Nat), e = .returned (.slice sa n cap) ∧ Below w.heap.size w w' ∧ ASl w' w.heap.size w'.heap.size sa n f
theorem grown_of_below {w w' : World} {row : Option Nat} (h : Below w.heap.size w w') : w.grownBy w' row := ⟨h.os, h.tape, h.output, h.size, fun k hk _ => h.block k hk⟩
end Go.Proofs.Ytfeolbgenpknfaa
namespace Go.Proofs.Ytfeolbgenpknfaa
open Go.RowKit

/-- The cells of the first k atoms. -/
def acells (f : Nat → Atm) : Nat → List Value
  | 0 => []
  | k + 1 => acells f k ++ [.string (f k).c, .int .i64 (f k).l, .int .i64 (f k).m]
theorem acells_len (f : Nat → Atm) : ∀ k, (acells f k).length = k * 3
  | 0 => rfl
  | k + 1 => by simp [acells, acells_len f k]; omega
theorem acells_get (f : Nat → Atm) (i : Nat) : ∀ k, i < k → (acells f k)[i * 3]? = some (.string (f i).c) ∧ (acells f k)[i * 3 + 1]? = some (.int .i64 (f i).l) ∧ (acells f k)[i * 3 + 2]? = some (.int .i64 (f i).m)
  | 0, h => by omega
  | k + 1, h => by
    have hl := acells_len f k
    by_cases e : i = k
    · subst e
      unfold acells
      rw [List.getElem?_append_right (by omega), List.getElem?_append_right (by omega), List.getElem?_append_right (by omega), hl]
      simp [show i * 3 + 1 - i * 3 = 1 by omega, show i * 3 + 2 - i * 3 = 2 by omega]
    · have h1 := acells_get f i k (by omega)
      unfold acells
      rw [List.getElem?_append_left (by omega), List.getElem?_append_left (by omega), List.getElem?_append_left (by omega)]
      exact h1
theorem acells_congr {f g : Nat → Atm} : ∀ k, (∀ i, i < k → f i = g i) → acells f k = acells g k
  | 0, _ => rfl
  | k + 1, h => by unfold acells; rw [acells_congr k (fun i hi => h i (by omega)), h k (by omega)]
theorem owns_below {w w' : World} {base n size B : Nat} {e : TypeId} {v : Value} {xs : List Value} (h : w.ownsRow base e size v n xs) (hb : Below B w w') (hB : B = w.heap.size) : w'.ownsRow base e size v n xs := by
  obtain ⟨hl, h⟩ := h
  refine ⟨hl, ?_⟩
  rcases h with h | ⟨g, cap, cur, h1, h2, h3, h4⟩
  · exact Or.inl h
  · refine Or.inr ⟨g, cap, cur, h1, h2, ?_, h4⟩
    rw [hb.block g (by rw [hB]; exact lt_of_block h3)]
    exact h3
theorem atoms_of_owns {W : World} {base n : Nat} {v : Value} {f : Nat → Atm} (h : W.ownsRow base 89 3 v n (acells f n)) : ∃ sa cap, v = .slice sa n cap ∧ ASl W base W.heap.size sa n f := by
  obtain ⟨_, ⟨rfl, rfl⟩ | ⟨g, cap, cur, rfl, hg, hh, hnc, hm, hs, ht⟩⟩ := h
  · exact ⟨none, 0, rfl, Or.inl rfl⟩
  · refine ⟨_, _, rfl, Or.inr ⟨g, rfl, hg, lt_of_block hh, ⟨lt_of_block hh, fun i hi => ?_, fun j hj => frozen_of_row _ _ _ _ _ hh⟩⟩⟩
    have hc : ∀ j, j < n * 3 → W.cell? ⟨g, j, none⟩ = (acells f n)[j]? := fun j hj => by
      rw [← ht, List.getElem?_take_of_lt hj]
      simp [World.cell?, hh]
    obtain ⟨h0, h1, h2⟩ := acells_get f i n hi
    exact ⟨by rw [hc _ (by omega)]; exact h0, by rw [hc _ (by omega)]; exact h1, by rw [hc _ (by omega)]; exact h2⟩
theorem new_of_owns {w W : World} {n : Nat} {v : Value} {f : Nat → Atm} (h : W.ownsRow w.heap.size 89 3 v n (acells f n)) (hb : Below w.heap.size w W) : NewAtoms w n f (.returned v) W := by
  obtain ⟨sa, cap, rfl, hs⟩ := atoms_of_owns h
  exact ⟨sa, cap, rfl, hb, hs⟩
/-- An empty slice of atoms that the call makes. -/
theorem owns_start (w : World) (base : Nat) (hb : base ≤ w.heap.size) (C : Array Value) (hC : C.size = 0) : (w.alloc (.cells C 89)).ownsRow base 89 3 (.slice (some ⟨w.heap.size, 0, none⟩) 0 0) 0 [] :=
  ⟨rfl, Or.inr ⟨w.heap.size, 0, C, rfl, hb, heap_alloc_new w _, Nat.le_refl _, Nat.zero_le _, by omega, by simp⟩⟩
end Go.Proofs.Ytfeolbgenpknfaa
namespace Go.Proofs.Ytfeolbgenpknfaa
open Go.RowKit

/-- An atom is small. -/
def SmallA (a : Atm) : Prop := a.c.size ≤ 256 ∧ (-2 ≤ a.l ∧ a.l ≤ 30) ∧ -2 ≤ a.m ∧ a.m ≤ 30
/-- Some pattern, in new memory. -/
def SomePat (w : World) (e : Ending) (w' : World) : Prop := ∃ (s : Option Addr) (n cap : Nat) (f : Nat → Atm), e = .returned (.slice s n cap) ∧ n ≤ 5 ∧ ASl w' w.heap.size w'.heap.size s n f ∧ ∀ i, i < n → SmallA (f i)
theorem owns_src {w w' : World} {base n size b : Nat} {e : TypeId} {v : Value} {xs : List Value} (h : w.ownsRow base e size v n xs) (hg : w.grownBy w' (some b)) (hb : b < base) : w'.ownsRow base e size v n xs := by
  obtain ⟨hl, h⟩ := h
  refine ⟨hl, ?_⟩
  rcases h with h | ⟨g, cap, cur, h1, h2, h3, h4⟩
  · exact Or.inl h
  · refine Or.inr ⟨g, cap, cur, h1, h2, ?_, h4⟩
    rw [hg.block g (lt_of_block h3) (fun e => by injection e with e; omega)]
    exact h3
/-- A pattern that is being drawn. -/
structure PatIn (w W : World) (b : Nat) (sa : Option Addr) (len cap m : Nat) (f : Nat → Atm) (v : Value) : Prop where
  g : w.grownBy W (some b)
  s : Src W b sa len cap
  o : W.ownsRow w.heap.size 89 3 v m (acells f m)
  sm : ∀ i, i < m → SmallA (f i)
theorem grown_row {w W W' : World} {b : Nat} {row : Option Nat} (h : w.grownBy W (some b)) (hg : W.grownBy W' row) (hr : ∀ j, row = some j → w.heap.size ≤ j) : w.grownBy W' (some b) :=
  ⟨hg.os.trans h.os, hg.tape.trans h.tape, hg.output.trans h.output, Nat.le_trans h.size hg.size, fun k hk hne => (hg.block k (Nat.lt_of_lt_of_le hk h.size) (fun e => by have := hr k e.symm; omega)).trans (h.block k hk hne)⟩
set_option maxRecDepth 100000 in
set_option maxHeartbeats 4000000 in
theorem l04Pattern_any (w : World) (b : Nat) (sa : Option Addr) (len cap : Nat) (hs : Src w b sa len cap) :
    Calls Try.prog 53 #[.pointer (some ⟨b, 0, none⟩)] w fun e w' => SomePat w e w' ∧ w.grownBy w' (some b) ∧ Src w' b sa len cap := by
  obtain ⟨i0, hi, hz0, hz1, hz2⟩ := info_parts Try.atomInfo
  have hb := hs.lt
  have P0 : Hid (PatIn w (w.alloc (.cells #[] 89)) b sa len cap 0 (fun _ => atm0) (.slice (some ⟨w.heap.size, 0, none⟩) 0 0)) :=
    ⟨World.grownBy_alloc w _ _, hs.after ((Below.refl _ _).alloc (Nat.le_refl _) _), owns_start w w.heap.size (Nat.le_refl _) _ rfl, fun i hi => by omega⟩
  clear hs
  go_enter Try.func53, Try.ntmps53
  go_wp2_with fail
  generalize w.alloc (.cells #[] 89) = v0 at *
  refine (n_any _ b sa len cap 5 (by decide) P0.out.s).mono ?_
  rintro e w1 ⟨⟨r, rfl, hr0, hr1, _⟩, hg, hS⟩
  have hr2 : r < 5 := hr1 (by decide)
  have P1 : Hid (PatIn w w1 b sa len cap 0 (fun _ => atm0) (.slice (some ⟨w.heap.size, 0, none⟩) 0 0)) := ⟨P0.out.g.trans hg, hS, owns_src P0.out.o hg hb, P0.out.sm⟩
  clear hr1 hg hS P0
  go_wp2_with fail
  go_loopw [3, 4] (fun v kv wr => ∃ (m : Nat) (f : Nat → Atm) (k : Int), kv = .int .i64 k ∧ 0 ≤ k ∧ k + (m : Int) ≤ 5 ∧ PatIn w wr b sa len cap m f v) (fun _ kv _ => (intOf kv).toNat)
  case atStart => exact ⟨0, _, 1 + r, rfl, by omega, by omega, P1.out⟩
  case round =>
    obtain ⟨m, f, k, rfl, hk0, hkm, hp⟩ := hrel
    have HP : Hid (PatIn w wr b sa len cap m f u3) := hp
    clear hp
    by_cases hk : 0 < k
    · go_wp2_with fail
      refine (l04Atom_any _ b sa len cap HP.out.s).mono ?_
      rintro e w2 ⟨⟨cl, le, mo, rfl, hat⟩, hg, hS⟩
      have G2 : Hid (w.grownBy w2 (some b)) := HP.out.g.trans hg
      have hown := owns_src HP.out.o hg hb
      have S2 : Hid (Src w2 b sa len cap) := hS
      have HA : Hid (SmallA ⟨cl, le, mo⟩) := hat
      have hlo : w.heap.size ≤ w2.heap.size := G2.out.size
      clear hg hS hat
      go_wp2_with (at_builtin; refine wpList_append_own _ rfl (.tmp 13) (.tmp 16) 23 rfl w.heap.size 89 i0 (.agg #[.string ⟨#[]⟩, .int .i64 0, .int .i64 0]) 3 32 Try.underlying23 hi hz0 hz1 hz2 rfl (by decide) _ _ _ rfl (hown.alloc _) ⟨w2.heap.size, 0, none⟩ 1 1 [.string cl, .int .i64 le, .int .i64 mo] rfl rfl ?c1 ?c2 ?c3 ?c4 ?c5 ?_)
      case c1 =>
        intro j u hu
        match j, hu with
        | 0, hu => simp at hu; subst hu; simp [Addr.add]
        | 1, hu => simp at hu; subst hu; simp [Addr.add]
        | 2, hu => simp at hu; subst hu; simp [Addr.add]
        | j + 3, hu => simp at hu
      case c2 => intro u hu; simp at hu; rcases hu with rfl | rfl | rfl <;> rfl
      case c3 => unfold maxLen; omega
      case c4 => omega
      case c5 => simp <;> omega
      intro v' w3 hown3 hgrow _
      have hg3 : w2.grownBy w3 u3.ownBlock := (World.grownBy_alloc w2 _ u3.ownBlock).trans hgrow
      have P3 : Hid (PatIn w w3 b sa len cap (m + 1) (fun i => if i = m then ⟨cl, le, mo⟩ else f i) v') := ⟨grown_row G2.out hg3 (fun j e => (hown.lt j e).1), S2.out.kept hg3 (fun j e => by have := (hown.lt j e).1; omega), by
        show w3.ownsRow w.heap.size 89 3 v' (m + 1) (acells (fun i => if i = m then ⟨cl, le, mo⟩ else f i) m ++ [.string (if m = m then (⟨cl, le, mo⟩ : Atm) else f m).c, .int .i64 (if m = m then (⟨cl, le, mo⟩ : Atm) else f m).l, .int .i64 (if m = m then (⟨cl, le, mo⟩ : Atm) else f m).m])
        rw [if_pos rfl, acells_congr m (fun i hi => if_neg (by omega))]
        exact hown3, fun i hi => by
          by_cases e : i = m
          · rw [if_pos e]; exact HA.out
          · rw [if_neg e]; exact HP.out.sm i (by omega)⟩
      clear hown3 hgrow hg3 hown
      go_wp2_with fail
      go_roundw
      case rel => exact ⟨m + 1, _, k - 1, by go_num, by omega, by omega, P3.out⟩
      case measure => simp [intOf]; omega
    · go_wp2_with fail
      refine (one_any _ b sa len cap 40 (by decide) HP.out.s).mono ?_
      rintro e w2 ⟨⟨x, rfl⟩, hg, hS⟩
      have hown := owns_src HP.out.o hg hb
      have G2 : Hid (w.grownBy w2 (some b) ∧ Src w2 b sa len cap) := ⟨HP.out.g.trans hg, hS⟩
      obtain ⟨s, cp, rfl, hsl⟩ := atoms_of_owns hown
      have HSL : Hid (ASl w2 w.heap.size w2.heap.size s m f) := hsl
      clear hg hS hown hsl
      cases x with
      | true =>
        go_wp2_with fail
        go_ret
        exact ⟨⟨_, 0, _, f, rfl, by omega, Or.inl rfl, fun i hi => by omega⟩, G2.out⟩
      | false =>
        go_wp2_with fail
        go_ret
        exact ⟨⟨_, m, _, f, rfl, by omega, HSL.out, HP.out.sm⟩, G2.out⟩
end Go.Proofs.Ytfeolbgenpknfaa
