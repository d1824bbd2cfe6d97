/- What is said here: what a pattern means, as plain mathematics: how a text is cut into pieces, and how far one gets. -/
import Derived.Test.YtfeolbgenpknfaaGreatQAtomDToPatM
namespace Go.Proofs.YtfeolbgenpknfaaGreat
open Go.RowKit

/-- There is a byte at a place, and it is of a class. -/
def takesB (t c : ByteArray) (s : Nat) : Bool := if h : s < t.size then hasByte c t[s].toNat else false
theorem takesB_lt {t c : ByteArray} {s : Nat} (h : takesB t c s = true) : s < t.size := by
  unfold takesB at h
  split at h
  · assumption
  · cases h
/-- So many bytes from a place on are of a class. -/
def RunC (t c : ByteArray) (s n : Nat) : Prop := ∀ j, j < n → takesB t c (s + j) = true
theorem RunC.zero (t c : ByteArray) (s : Nat) : RunC t c s 0 := fun _ h => by omega
theorem RunC.mono {t c : ByteArray} {s n m : Nat} (h : RunC t c s n) (hm : m ≤ n) : RunC t c s m := fun j hj => h j (by omega)
theorem RunC.succ {t c : ByteArray} {s n : Nat} (h : RunC t c s n) (h2 : takesB t c (s + n) = true) : RunC t c s (n + 1) := fun j hj => by
  by_cases e : j = n
  · rw [e]; exact h2
  · exact h j (by omega)
theorem RunC.head {t c : ByteArray} {s n : Nat} (h : RunC t c s (n + 1)) : takesB t c s = true ∧ RunC t c (s + 1) n :=
  ⟨h 0 (by omega), fun j hj => by have := h (j + 1) (by omega); rw [show s + 1 + j = s + (j + 1) by omega]; exact this⟩
theorem RunC.cons {t c : ByteArray} {s n : Nat} (h : takesB t c s = true) (h2 : RunC t c (s + 1) n) : RunC t c s (n + 1) := fun j hj => by
  cases j with
  | zero => exact h
  | succ j => have := h2 j (by omega); rw [show s + (j + 1) = s + 1 + j by omega]; exact this
theorem RunC.le {t c : ByteArray} {s n : Nat} (h : RunC t c s n) (hs : s ≤ t.size) : s + n ≤ t.size := by
  cases n with
  | zero => exact hs
  | succ n => have := takesB_lt (h n (by omega)); omega
theorem RunC.append {t c : ByteArray} {s n m : Nat} (h : RunC t c s n) (h2 : RunC t c (s + n) m) : RunC t c s (n + m) := fun j hj => by
  by_cases e : j < n
  · exact h j e
  · have := h2 (j - n) (by omega); rw [show s + j = s + n + (j - n) by omega]; exact this
theorem RunC.split {t c : ByteArray} {s n m : Nat} (h : RunC t c s (n + m)) : RunC t c s n ∧ RunC t c (s + n) m :=
  ⟨h.mono (by omega), fun j hj => by have := h (n + j) (by omega); rw [show s + n + j = s + (n + j) by omega]; exact this⟩
/-- So often an atom may come. -/
def Okay (a : Atm) (n : Nat) : Prop := a.l ≤ (n : Int) ∧ (a.m = -1 ∨ (n : Int) ≤ a.m)
/-- A text, from a place to a place, is cut into pieces of these atoms. -/
def Cuts (t : ByteArray) : List Atm → Nat → Nat → Prop
  | [], s, e => s = e
  | a :: ps, s, e => ∃ n : Nat, Okay a n ∧ RunC t a.c s n ∧ Cuts t ps (s + n) e
theorem Cuts.le {t : ByteArray} : ∀ {ps : List Atm} {s e : Nat}, Cuts t ps s e → s ≤ t.size → s ≤ e ∧ e ≤ t.size
  | [], s, e, h, hs => by have : s = e := h; omega
  | a :: ps, s, e, ⟨n, _, h2, h3⟩, hs => by have h4 := h2.le hs; have := Cuts.le h3 h4; omega
theorem cuts_append {t : ByteArray} : ∀ {ps bs : List Atm} {s e : Nat}, Cuts t (ps ++ bs) s e ↔ ∃ m, Cuts t ps s m ∧ Cuts t bs m e
  | [], bs, s, e => ⟨fun h => ⟨s, rfl, h⟩, fun ⟨m, h1, h2⟩ => by have : s = m := h1; rw [this]; exact h2⟩
  | a :: ps, bs, s, e => by
    constructor
    · rintro ⟨n, h1, h2, h3⟩
      obtain ⟨m, h4, h5⟩ := cuts_append.1 h3
      exact ⟨m, ⟨n, h1, h2, h4⟩, h5⟩
    · rintro ⟨m, ⟨n, h1, h2, h3⟩, h4⟩
      exact ⟨n, h1, h2, cuts_append.2 ⟨m, h3, h4⟩⟩
/-- The greatest of some places, or none. -/
def Best (P : Nat → Prop) (v : Int) : Prop := (v = -1 ∧ ∀ e, ¬ P e) ∨ (∃ e : Nat, v = (e : Int) ∧ P e ∧ ∀ e', P e' → e' ≤ e)
theorem Best.congr {P Q : Nat → Prop} {v : Int} (h : Best P v) (e : ∀ x, P x ↔ Q x) : Best Q v := by
  rcases h with ⟨h1, h2⟩ | ⟨x, h1, h2, h3⟩
  · exact Or.inl ⟨h1, fun y hy => h2 y ((e y).2 hy)⟩
  · exact Or.inr ⟨x, h1, (e x).1 h2, fun y hy => h3 y ((e y).2 hy)⟩
theorem Best.uniq {P : Nat → Prop} {v u : Int} (h : Best P v) (h' : Best P u) : v = u := by
  rcases h with ⟨h1, h2⟩ | ⟨x, h1, h2, h3⟩ <;> rcases h' with ⟨g1, g2⟩ | ⟨y, g1, g2, g3⟩
  · omega
  · exact absurd g2 (h2 y)
  · exact absurd h2 (g2 x)
  · have := h3 y g2; have := g3 x h2; omega
theorem Best.none (P : Nat → Prop) (h : ∀ e, ¬ P e) : Best P (-1) := Or.inl ⟨rfl, h⟩
theorem Best.max {P Q : Nat → Prop} {v u : Int} (h : Best P v) (h' : Best Q u) : Best (fun e => P e ∨ Q e) (max v u) := by
  rcases h with ⟨h1, h2⟩ | ⟨x, h1, h2, h3⟩ <;> rcases h' with ⟨g1, g2⟩ | ⟨y, g1, g2, g3⟩
  · exact Or.inl ⟨by omega, fun e he => he.elim (h2 e) (g2 e)⟩
  · exact Or.inr ⟨y, by omega, Or.inr g2, fun e he => he.elim (fun h => absurd h (h2 e)) (g3 e)⟩
  · exact Or.inr ⟨x, by omega, Or.inl h2, fun e he => he.elim (h3 e) (fun h => absurd h (g2 e))⟩
  · rcases Nat.le_total x y with hxy | hxy
    · exact Or.inr ⟨y, by omega, Or.inr g2, fun e he => he.elim (fun h => Nat.le_trans (h3 e h) hxy) (g3 e)⟩
    · exact Or.inr ⟨x, by omega, Or.inl h2, fun e he => he.elim (h3 e) (fun h => Nat.le_trans (g3 e h) hxy)⟩
/-- Nobody gets further than to the end. -/
theorem Best.full {P Q : Nat → Prop} {n : Nat} (h : Best P (n : Int)) (h1 : ∀ e, P e → Q e) (h2 : ∀ e, Q e → e ≤ n) : Best Q (n : Int) := by
  rcases h with ⟨h3, _⟩ | ⟨x, h3, h4, _⟩
  · omega
  · have : x = n := by omega
    subst this
    exact Or.inr ⟨x, rfl, h1 x h4, h2⟩
theorem Best.bd {P : Nat → Prop} {v : Int} {n : Nat} (h : Best P v) (h2 : ∀ e, P e → e ≤ n) : -1 ≤ v ∧ v ≤ (n : Int) := by
  rcases h with ⟨h3, _⟩ | ⟨x, h3, h4, _⟩
  · omega
  · have := h2 x h4; omega
theorem best_some (P : Nat → Prop) (n : Nat) (h : ∀ e, P e → e ≤ n) : ∃ v, Best P v := by
  induction n generalizing P with
  | zero =>
    by_cases h0 : P 0
    · exact ⟨0, Or.inr ⟨0, rfl, h0, h⟩⟩
    · exact ⟨-1, Or.inl ⟨rfl, fun e he => by have := h e he; obtain rfl : e = 0 := by omega
                                             exact h0 he⟩⟩
  | succ n ih =>
    by_cases h0 : P (n + 1)
    · exact ⟨_, Or.inr ⟨n + 1, rfl, h0, h⟩⟩
    · exact ih P (fun e he => by
        have := h e he
        by_cases e1 : e = n + 1
        · subst e1; exact absurd he h0
        · omega)
/-- How far one gets from a place on. -/
def Far (t : ByteArray) (ps : List Atm) (s : Nat) (v : Int) : Prop := Best (Cuts t ps s) v
theorem Far.bd {t : ByteArray} {ps : List Atm} {s : Nat} {v : Int} (h : Far t ps s v) (hs : s ≤ t.size) : -1 ≤ v ∧ v ≤ (t.size : Int) := Best.bd h (fun _ he => (he.le hs).2)
theorem far_nil (t : ByteArray) (s : Nat) : Far t [] s (s : Int) := Or.inr ⟨s, rfl, rfl, fun e (h : s = e) => by omega⟩
/-- An atom of any times: it is left, or one byte is taken. -/
theorem cuts_any {t : ByteArray} {a : Atm} {ps : List Atm} {s e : Nat} (hl : a.l = 0) (hm : a.m = -1) : Cuts t (a :: ps) s e ↔ (Cuts t ps s e ∨ (takesB t a.c s = true ∧ Cuts t (a :: ps) (s + 1) e)) := by
  constructor
  · rintro ⟨n, h1, h2, h3⟩
    cases n with
    | zero => exact Or.inl h3
    | succ n =>
      obtain ⟨g1, g2⟩ := h2.head
      exact Or.inr ⟨g1, n, ⟨by omega, Or.inl hm⟩, g2, by rw [show s + 1 + n = s + (n + 1) by omega]; exact h3⟩
  · rintro (h | ⟨h1, n, h2, h3, h4⟩)
    · exact ⟨0, ⟨by omega, Or.inl hm⟩, RunC.zero _ _ _, h⟩
    · exact ⟨n + 1, ⟨by omega, Or.inl hm⟩, RunC.cons h1 h3, by rw [show s + (n + 1) = s + 1 + n by omega]; exact h4⟩
theorem far_any_on {t : ByteArray} {a : Atm} {ps : List Atm} {s : Nat} {v u : Int} (hl : a.l = 0) (hm : a.m = -1) (ht : takesB t a.c s = true) (h1 : Far t ps s v) (h2 : Far t (a :: ps) (s + 1) u) : Far t (a :: ps) s (max v u) :=
  (Best.max h1 h2).congr (fun e => by rw [cuts_any (s := s) hl hm]; simp [ht])
theorem far_any_off {t : ByteArray} {a : Atm} {ps : List Atm} {s : Nat} {v : Int} (hl : a.l = 0) (hm : a.m = -1) (ht : takesB t a.c s = false) (h1 : Far t ps s v) : Far t (a :: ps) s v :=
  Best.congr h1 (fun e => by rw [cuts_any (s := s) hl hm]; simp [ht])
theorem far_any_full {t : ByteArray} {a : Atm} {ps : List Atm} {s : Nat} (hl : a.l = 0) (hm : a.m = -1) (hs : s ≤ t.size) (h1 : Far t ps s (t.size : Int)) : Far t (a :: ps) s (t.size : Int) :=
  Best.full h1 (fun _ he => (cuts_any hl hm).2 (Or.inl he)) (fun _ he => (he.le hs).2)
/-- What ends behind fewer than n bytes of the atom. -/
def Tried (t : ByteArray) (a : Atm) (ps : List Atm) (s n e : Nat) : Prop := ∃ m, m < n ∧ a.l ≤ (m : Int) ∧ Cuts t ps (s + m) e
theorem tried_zero {t : ByteArray} {a : Atm} {ps : List Atm} {s : Nat} : Best (Tried t a ps s 0) (-1) := Best.none _ (fun _ ⟨_, h, _⟩ => by omega)
theorem tried_on {t : ByteArray} {a : Atm} {ps : List Atm} {s n : Nat} {v u : Int} (hl : a.l ≤ (n : Int)) (h : Best (Tried t a ps s n) v) (h2 : Far t ps (s + n) u) : Best (Tried t a ps s (n + 1)) (max v u) :=
  (Best.max h h2).congr (fun e => ⟨fun h => h.elim (fun ⟨m, g1, g2, g3⟩ => ⟨m, by omega, g2, g3⟩) (fun h => ⟨n, by omega, hl, h⟩), fun ⟨m, g1, g2, g3⟩ => by
    by_cases em : m = n
    · subst em; exact Or.inr g3
    · exact Or.inl ⟨m, by omega, g2, g3⟩⟩)
theorem tried_off {t : ByteArray} {a : Atm} {ps : List Atm} {s n : Nat} {v : Int} (hl : ¬ a.l ≤ (n : Int)) (h : Best (Tried t a ps s n) v) : Best (Tried t a ps s (n + 1)) v :=
  Best.congr h (fun e => ⟨fun ⟨m, g1, g2, g3⟩ => ⟨m, by omega, g2, g3⟩, fun ⟨m, g1, g2, g3⟩ => by
    by_cases em : m = n
    · subst em; exact absurd g2 hl
    · exact ⟨m, by omega, g2, g3⟩⟩)
/-- All was tried. -/
theorem tried_all {t : ByteArray} {a : Atm} {ps : List Atm} {s n : Nat} {v : Int} (hr : RunC t a.c s n) (hm : (n : Int) ≤ a.m) (hend : (n : Int) = a.m ∨ takesB t a.c (s + n) = false) (h : Best (Tried t a ps s (n + 1)) v) : Far t (a :: ps) s v :=
  Best.congr h (fun e => ⟨fun ⟨m, g1, g2, g3⟩ => ⟨m, ⟨g2, Or.inr (by omega)⟩, hr.mono (by omega), g3⟩, fun ⟨m, ⟨g1, g2⟩, g3, g4⟩ => by
    refine ⟨m, ?_, g1, g4⟩
    rcases hend with h | h
    · rcases g2 with g2 | g2 <;> omega
    · by_cases hmn : m < n + 1
      · exact hmn
      · have := g3 n (by omega)
        rw [h] at this
        cases this⟩)
theorem tried_full {t : ByteArray} {a : Atm} {ps : List Atm} {s n : Nat} (hs : s ≤ t.size) (hr : RunC t a.c s n) (hm : (n : Int) ≤ a.m) (h : Best (Tried t a ps s (n + 1)) (t.size : Int)) : Far t (a :: ps) s (t.size : Int) :=
  Best.full h (fun _ ⟨m, g1, g2, g3⟩ => ⟨m, ⟨g2, Or.inr (by omega)⟩, hr.mono (by omega), g3⟩) (fun _ he => (he.le hs).2)
theorem tried_le {t : ByteArray} {a : Atm} {ps : List Atm} {s n e : Nat} (hr : RunC t a.c s n) (hs : s ≤ t.size) (h : Tried t a ps s (n + 1) e) : e ≤ t.size := by
  obtain ⟨m, h1, _, h2⟩ := h
  exact (h2.le ((hr.mono (by omega)).le hs)).2
/-- An atom without a most is written as one of its least, and one of any times. -/
def part1 (a : Atm) : List Atm := if a.m = -1 ∧ 0 < a.l then [⟨a.c, a.l, a.l⟩, ⟨a.c, 0, -1⟩] else [a]
def partL : List Atm → List Atm
  | [] => []
  | a :: ps => part1 a ++ partL ps
theorem partL_append : ∀ ps bs : List Atm, partL (ps ++ bs) = partL ps ++ partL bs
  | [], _ => rfl
  | a :: ps, bs => by show part1 a ++ partL (ps ++ bs) = part1 a ++ partL ps ++ partL bs; rw [partL_append ps bs, List.append_assoc]
theorem part1_len (a : Atm) : (part1 a).length ≤ 2 := by unfold part1; split <;> simp
theorem partL_len : ∀ ps : List Atm, (partL ps).length ≤ 2 * ps.length
  | [] => by simp [partL]
  | a :: ps => by
    show (part1 a ++ partL ps).length ≤ 2 * (ps.length + 1)
    have := partL_len ps
    have := part1_len a
    rw [List.length_append]
    omega
theorem cuts_part1 {t : ByteArray} {a : Atm} {ps : List Atm} {s e : Nat} : Cuts t (part1 a ++ ps) s e ↔ Cuts t (a :: ps) s e := by
  unfold part1
  split
  · rename_i h
    obtain ⟨hm, hl⟩ := h
    constructor
    · rintro ⟨n, ⟨h1, h2⟩, h3, k, ⟨h4, h5⟩, h6, h7⟩
      simp only at h1 h2 h3 h4 h5 h6
      exact ⟨n + k, ⟨by omega, Or.inl hm⟩, h3.append h6, by rw [show s + (n + k) = s + n + k by omega]; exact h7⟩
    · rintro ⟨n, ⟨h1, h2⟩, h3, h4⟩
      obtain ⟨l, hl'⟩ : ∃ l : Nat, a.l = (l : Int) := ⟨a.l.toNat, by omega⟩
      obtain ⟨k, rfl⟩ : ∃ k, n = l + k := ⟨n - l, by omega⟩
      obtain ⟨g1, g2⟩ := h3.split
      exact ⟨l, ⟨by show a.l ≤ _; omega, Or.inr (by show _ ≤ a.l; omega)⟩, g1, k, ⟨by show (0 : Int) ≤ _; omega, Or.inl rfl⟩, g2, by rw [show s + l + k = s + (l + k) by omega]; exact h4⟩
  · exact Iff.rfl
theorem cuts_part {t : ByteArray} : ∀ {ps : List Atm} {s e : Nat}, Cuts t (partL ps) s e ↔ Cuts t ps s e
  | [], s, e => Iff.rfl
  | a :: ps, s, e => by
    show Cuts t (part1 a ++ partL ps) s e ↔ _
    rw [cuts_part1]
    exact ⟨fun ⟨n, h1, h2, h3⟩ => ⟨n, h1, h2, cuts_part.1 h3⟩, fun ⟨n, h1, h2, h3⟩ => ⟨n, h1, h2, cuts_part.2 h3⟩⟩
/-- The atoms of parted patterns: of any times, or of so many. -/
def Parted (a : Atm) : Prop := 0 ≤ a.l ∧ a.l ≤ 20 ∧ (a.m = -1 ∧ a.l = 0 ∨ a.l ≤ a.m ∧ a.m ≤ 20)
theorem parted_of {a : Atm} (h : AtomRight a) : ∀ b ∈ part1 a, Parted b ∧ b.c = a.c := by
  obtain ⟨_, _, h3, h4, h5⟩ := h
  unfold part1
  split
  · rename_i h
    intro b hb
    rcases List.mem_cons.1 hb with rfl | hb
    · exact ⟨⟨h3, h4, Or.inr ⟨Int.le_refl _, h4⟩⟩, rfl⟩
    · rcases List.mem_cons.1 hb with rfl | hb
      · exact ⟨⟨Int.le_refl _, by show (0 : Int) ≤ 20; omega, Or.inl ⟨rfl, rfl⟩⟩, rfl⟩
      · cases hb
  · rename_i h
    intro b hb
    rcases List.mem_cons.1 hb with rfl | hb
    · refine ⟨⟨h3, h4, ?_⟩, rfl⟩
      rcases h5 with h5 | h5
      · exact Or.inl ⟨h5, by omega⟩
      · exact Or.inr ⟨h5.1, h5.2.2⟩
    · cases hb
theorem parted_all : ∀ {ps : List Atm}, (∀ a ∈ ps, AtomRight a) → ∀ b ∈ partL ps, Parted b ∧ RightC b.c
  | [], _, b, hb => by cases hb
  | a :: ps, h, b, hb => by
    rcases List.mem_append.1 hb with hb | hb
    · have := parted_of (h a (by simp)) b hb
      exact ⟨this.1, by rw [this.2]; exact (h a (by simp)).1⟩
    · exact parted_all (fun x hx => h x (by simp [hx])) b hb
/-- The first n atoms of a row as a list. -/
def atomsL (f : Nat → Atm) (n : Nat) : List Atm := (List.range n).map f
theorem atomsL_len (f : Nat → Atm) (n : Nat) : (atomsL f n).length = n := by simp [atomsL]
theorem atomsL_succ (f : Nat → Atm) (n : Nat) : atomsL f (n + 1) = atomsL f n ++ [f n] := by simp [atomsL, List.range_succ]
theorem atomsL_congr {f g : Nat → Atm} {n : Nat} (h : ∀ i, i < n → f i = g i) : atomsL f n = atomsL g n := List.map_congr_left (fun i hi => h i (List.mem_range.1 hi))
theorem atomsL_get {f : Nat → Atm} {n i : Nat} (h : i < n) : (atomsL f n)[i]? = some (f i) := by simp [atomsL, h]
theorem atomsL_mem {f : Nat → Atm} {n : Nat} {a : Atm} (h : a ∈ atomsL f n) : ∃ i, i < n ∧ f i = a := by
  obtain ⟨i, h1, h2⟩ := List.mem_map.1 h
  exact ⟨i, List.mem_range.1 h1, h2⟩
theorem atomsL_drop {f : Nat → Atm} {n i : Nat} (h : i < n) : (atomsL f n).drop i = f i :: (atomsL f n).drop (i + 1) := by
  have h1 : i < (atomsL f n).length := by rw [atomsL_len]; exact h
  rw [List.drop_eq_getElem_cons h1]
  congr 1
  have := atomsL_get (f := f) h
  rw [List.getElem?_eq_getElem h1] at this
  injection this
theorem atomsL_getD (L : List Atm) : atomsL (fun i => L.getD i atm0) L.length = L := by
  apply List.ext_getElem?
  intro i
  by_cases h : i < L.length
  · rw [atomsL_get h]
    simp [h]
  · rw [List.getElem?_eq_none (by rw [atomsL_len]; omega), List.getElem?_eq_none (by omega)]
end Go.Proofs.YtfeolbgenpknfaaGreat
