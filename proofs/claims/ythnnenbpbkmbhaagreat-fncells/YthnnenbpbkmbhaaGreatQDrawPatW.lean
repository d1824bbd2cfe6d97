/- What is proved here: a pattern that is drawn is a slice of at most five small atoms in new memory; nothing turns but the source's own block. -/
import Derived.Test.YthnnenbpbkmbhaaGreatQDrawAtomW
import Derived.Test.YthnnenbpbkmbhaaGreatQAtomDToAtomRowW
namespace Go.Proofs.YthnnenbpbkmbhaaGreat
open Go.RowKit

/-- An atom is small. -/
def SmallA (a : Atm) : Prop := a.c.size ≤ 256 ∧ (-2 ≤ a.l ∧ a.l ≤ 30) ∧ -2 ≤ a.m ∧ a.m ≤ 30
/-- Some pattern, in new memory. -/
def SomePat (w : World) (e : Ending) (w' : World) : Prop := ∃ (s : Option Addr) (n cap : Nat) (f : Nat → Atm), e = .returned (.slice s n cap) ∧ n ≤ 5 ∧ ASl w' w.heap.size w'.heap.size s n f ∧ ∀ i, i < n → SmallA (f i)
theorem owns_src {w w' : World} {base n size b : Nat} {e : TypeId} {v : Value} {xs : List Value} (h : w.ownsRow base e size v n xs) (hg : w.grownBy w' (some b)) (hb : b < base) : w'.ownsRow base e size v n xs := by
  obtain ⟨hl, h⟩ := h
  refine ⟨hl, ?_⟩
  rcases h with h | ⟨g, cap, cur, h1, h2, h3, h4⟩
  · exact Or.inl h
  · refine Or.inr ⟨g, cap, cur, h1, h2, ?_, h4⟩
    rw [hg.block g (lt_of_block h3) (fun e => by injection e with e; omega)]
    exact h3
/-- A pattern that is being drawn. -/
structure PatIn (w W : World) (b : Nat) (sa : Option Addr) (len cap m : Nat) (f : Nat → Atm) (v : Value) : Prop where
  g : w.grownBy W (some b)
  s : Src W b sa len cap
  o : W.ownsRow w.heap.size 69 3 v m (acells f m)
  sm : ∀ i, i < m → SmallA (f i)
theorem grown_row {w W W' : World} {b : Nat} {row : Option Nat} (h : w.grownBy W (some b)) (hg : W.grownBy W' row) (hr : ∀ j, row = some j → w.heap.size ≤ j) : w.grownBy W' (some b) :=
  ⟨hg.os.trans h.os, hg.tape.trans h.tape, hg.output.trans h.output, Nat.le_trans h.size hg.size, fun k hk hne => (hg.block k (Nat.lt_of_lt_of_le hk h.size) (fun e => by have := hr k e.symm; omega)).trans (h.block k hk hne)⟩
set_option maxRecDepth 100000 in
set_option maxHeartbeats 4000000 in
theorem l04Pattern_any (w : World) (b : Nat) (sa : Option Addr) (len cap : Nat) (hs : Src w b sa len cap) :
    Calls Tryz.prog 45 #[.pointer (some ⟨b, 0, none⟩)] w fun e w' => SomePat w e w' ∧ w.grownBy w' (some b) ∧ Src w' b sa len cap := by
  obtain ⟨i0, hi, hz0, hz1, hz2⟩ := info_parts Tryz.atomInfo
  have hb := hs.lt
  have P0 : Hid (PatIn w (w.alloc (.cells #[] 69)) b sa len cap 0 (fun _ => atm0) (.slice (some ⟨w.heap.size, 0, none⟩) 0 0)) :=
    ⟨World.grownBy_alloc w _ _, hs.after ((Below.refl _ _).alloc (Nat.le_refl _) _), owns_start w w.heap.size (Nat.le_refl _) _ rfl, fun i hi => by omega⟩
  clear hs
  go_enter Tryz.func45, Tryz.ntmps45
  go_wp2_with fail
  generalize w.alloc (.cells #[] 69) = v0 at *
  refine (n_any _ b sa len cap 5 (by decide) P0.out.s).mono ?_
  rintro e w1 ⟨⟨r, rfl, hr0, hr1, _⟩, hg, hS⟩
  have hr2 : r < 5 := hr1 (by decide)
  have P1 : Hid (PatIn w w1 b sa len cap 0 (fun _ => atm0) (.slice (some ⟨w.heap.size, 0, none⟩) 0 0)) := ⟨P0.out.g.trans hg, hS, owns_src P0.out.o hg hb, P0.out.sm⟩
  clear hr1 hg hS P0
  go_wp2_with fail
  go_loopw [3, 4] (fun v kv wr => ∃ (m : Nat) (f : Nat → Atm) (k : Int), kv = .int .i64 k ∧ 0 ≤ k ∧ k + (m : Int) ≤ 5 ∧ PatIn w wr b sa len cap m f v) (fun _ kv _ => (intOf kv).toNat)
  case atStart => exact ⟨0, _, 1 + r, rfl, by omega, by omega, P1.out⟩
  case round =>
    obtain ⟨m, f, k, rfl, hk0, hkm, hp⟩ := hrel
    have HP : Hid (PatIn w wr b sa len cap m f u3) := hp
    clear hp
    by_cases hk : 0 < k
    · go_wp2_with fail
      refine (l04Atom_any _ b sa len cap HP.out.s).mono ?_
      rintro e w2 ⟨⟨cl, le, mo, rfl, hat⟩, hg, hS⟩
      have G2 : Hid (w.grownBy w2 (some b)) := HP.out.g.trans hg
      have hown := owns_src HP.out.o hg hb
      have S2 : Hid (Src w2 b sa len cap) := hS
      have HA : Hid (SmallA ⟨cl, le, mo⟩) := hat
      have hlo : w.heap.size ≤ w2.heap.size := G2.out.size
      clear hg hS hat
      go_wp2_with (at_builtin; refine wpList_append_own _ rfl (.tmp 13) (.tmp 16) 23 rfl w.heap.size 69 i0 (.agg #[.string ⟨#[]⟩, .int .i64 0, .int .i64 0]) 3 32 Tryz.underlying23 hi hz0 hz1 hz2 rfl (by decide) _ _ _ rfl (hown.alloc _) ⟨w2.heap.size, 0, none⟩ 1 1 [.string cl, .int .i64 le, .int .i64 mo] rfl rfl ?c1 ?c2 ?c3 ?c4 ?c5 ?_)
      case c1 =>
        intro j u hu
        match j, hu with
        | 0, hu => simp at hu; subst hu; simp [Addr.add]
        | 1, hu => simp at hu; subst hu; simp [Addr.add]
        | 2, hu => simp at hu; subst hu; simp [Addr.add]
        | j + 3, hu => simp at hu
      case c2 => intro u hu; simp at hu; rcases hu with rfl | rfl | rfl <;> rfl
      case c3 => unfold maxLen; omega
      case c4 => omega
      case c5 => simp <;> omega
      intro v' w3 hown3 hgrow _
      have hg3 : w2.grownBy w3 u3.ownBlock := (World.grownBy_alloc w2 _ u3.ownBlock).trans hgrow
      have P3 : Hid (PatIn w w3 b sa len cap (m + 1) (fun i => if i = m then ⟨cl, le, mo⟩ else f i) v') := ⟨grown_row G2.out hg3 (fun j e => (hown.lt j e).1), S2.out.kept hg3 (fun j e => by have := (hown.lt j e).1; omega), by
        show w3.ownsRow w.heap.size 69 3 v' (m + 1) (acells (fun i => if i = m then ⟨cl, le, mo⟩ else f i) m ++ [.string (if m = m then (⟨cl, le, mo⟩ : Atm) else f m).c, .int .i64 (if m = m then (⟨cl, le, mo⟩ : Atm) else f m).l, .int .i64 (if m = m then (⟨cl, le, mo⟩ : Atm) else f m).m])
        rw [if_pos rfl, acells_congr m (fun i hi => if_neg (by omega))]
        exact hown3, fun i hi => by
          by_cases e : i = m
          · rw [if_pos e]; exact HA.out
          · rw [if_neg e]; exact HP.out.sm i (by omega)⟩
      clear hown3 hgrow hg3 hown
      go_wp2_with fail
      go_roundw
      case rel => exact ⟨m + 1, _, k - 1, by go_num, by omega, by omega, P3.out⟩
      case measure => simp [intOf]; omega
    · go_wp2_with fail
      refine (one_any _ b sa len cap 40 (by decide) HP.out.s).mono ?_
      rintro e w2 ⟨⟨x, rfl⟩, hg, hS⟩
      have hown := owns_src HP.out.o hg hb
      have G2 : Hid (w.grownBy w2 (some b) ∧ Src w2 b sa len cap) := ⟨HP.out.g.trans hg, hS⟩
      obtain ⟨s, cp, rfl, hsl⟩ := atoms_of_owns hown
      have HSL : Hid (ASl w2 w.heap.size w2.heap.size s m f) := hsl
      clear hg hS hown hsl
      cases x with
      | true =>
        go_wp2_with fail
        go_ret
        exact ⟨⟨_, 0, _, f, rfl, by omega, Or.inl rfl, fun i hi => by omega⟩, G2.out⟩
      | false =>
        go_wp2_with fail
        go_ret
        exact ⟨⟨_, m, _, f, rfl, by omega, HSL.out, HP.out.sm⟩, G2.out⟩
end Go.Proofs.YthnnenbpbkmbhaaGreat
