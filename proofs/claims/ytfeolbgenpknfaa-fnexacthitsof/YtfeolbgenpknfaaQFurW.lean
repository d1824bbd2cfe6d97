/- What is said here: what is asked of the program's furthest, and what stays in memory while it is asked. -/
import Derived.Test.YtfeolbgenpknfaaQMemo2WToTakesW
namespace Go.Proofs.Ytfeolbgenpknfaa
open Go.RowKit

/-- From that place on, with that atom and all behind it, the program says how far one gets. -/
def FurC (sa : Option Addr) (n cap : Nat) (t : ByteArray) (g : Nat → Atm) (B i s : Nat) : Prop :=
  ∀ W : World, Memo t (atomsL g n) B W → ARow W B sa n g → Calls Try.prog 95 #[.agg #[.slice sa n cap, .string t, .map (some B)], .agg #[.int .i64 (i : Int), .int .i64 (s : Int)]] W fun e w' => ∃ v : Int, e = .returned (.int .i64 v) ∧ Far t ((atomsL g n).drop i) s v ∧ Memo t (atomsL g n) B w' ∧ Turn B W w'
/-- A meaning, a question and an atom lie in boxes. -/
structure Three (W : World) (p q r : Nat) (sa : Option Addr) (n cap : Nat) (t : ByteArray) (B i s : Nat) (a : Atm) : Prop where
  m0 : W.cell? ⟨p, 0, none⟩ = some (.slice sa n cap)
  m1 : W.cell? ⟨p, 1, none⟩ = some (.string t)
  m2 : W.cell? ⟨p, 2, none⟩ = some (.map (some B))
  q0 : W.cell? ⟨q, 0, none⟩ = some (.int .i64 (i : Int))
  q1 : W.cell? ⟨q, 1, none⟩ = some (.int .i64 (s : Int))
  a0 : W.cell? ⟨r, 0, none⟩ = some (.string a.c)
  a1 : W.cell? ⟨r, 1, none⟩ = some (.int .i64 a.l)
  a2 : W.cell? ⟨r, 2, none⟩ = some (.int .i64 a.m)
  lp : p < W.heap.size
  lq : q < W.heap.size
  lr : r < W.heap.size
  np : p ≠ B
  nq : q ≠ B
  nr : r ≠ B
theorem Three.turn {W W' : World} {p q r : Nat} {sa : Option Addr} {n cap : Nat} {t : ByteArray} {B i s : Nat} {a : Atm} (h : Three W p q r sa n cap t B i s a) (ht : Turn B W W') : Three W' p q r sa n cap t B i s a :=
  ⟨by rw [ht.cell h.lp h.np]; exact h.m0, by rw [ht.cell h.lp h.np]; exact h.m1, by rw [ht.cell h.lp h.np]; exact h.m2, by rw [ht.cell h.lq h.nq]; exact h.q0, by rw [ht.cell h.lq h.nq]; exact h.q1, by rw [ht.cell h.lr h.nr]; exact h.a0, by rw [ht.cell h.lr h.nr]; exact h.a1, by rw [ht.cell h.lr h.nr]; exact h.a2, Nat.lt_of_lt_of_le h.lp ht.size, Nat.lt_of_lt_of_le h.lq ht.size, Nat.lt_of_lt_of_le h.lr ht.size, h.np, h.nq, h.nr⟩
/-- A meaning and a question lie in boxes. -/
structure Two (W : World) (p q : Nat) (sa : Option Addr) (n cap : Nat) (t : ByteArray) (B i s : Nat) : Prop where
  m0 : W.cell? ⟨p, 0, none⟩ = some (.slice sa n cap)
  m1 : W.cell? ⟨p, 1, none⟩ = some (.string t)
  m2 : W.cell? ⟨p, 2, none⟩ = some (.map (some B))
  q0 : W.cell? ⟨q, 0, none⟩ = some (.int .i64 (i : Int))
  q1 : W.cell? ⟨q, 1, none⟩ = some (.int .i64 (s : Int))
  lp : p < W.heap.size
  lq : q < W.heap.size
  np : p ≠ B
  nq : q ≠ B
theorem Two.turn {W W' : World} {p q : Nat} {sa : Option Addr} {n cap : Nat} {t : ByteArray} {B i s : Nat} (h : Two W p q sa n cap t B i s) (ht : Turn B W W') : Two W' p q sa n cap t B i s :=
  ⟨by rw [ht.cell h.lp h.np]; exact h.m0, by rw [ht.cell h.lp h.np]; exact h.m1, by rw [ht.cell h.lp h.np]; exact h.m2, by rw [ht.cell h.lq h.nq]; exact h.q0, by rw [ht.cell h.lq h.nq]; exact h.q1, Nat.lt_of_lt_of_le h.lp ht.size, Nat.lt_of_lt_of_le h.lq ht.size, h.np, h.nq⟩
theorem two_new (W : World) (sa : Option Addr) (n cap : Nat) (t : ByteArray) (B i s : Nat) (hB : B < W.heap.size) (tm tq : TypeId) : Two ((W.alloc (.cells #[.slice sa n cap, .string t, .map (some B)] tm)).alloc (.cells #[.int .i64 (i : Int), .int .i64 (s : Int)] tq)) W.heap.size (W.heap.size + 1) sa n cap t B i s := by
  refine ⟨?_, ?_, ?_, ?_, ?_, ?_, ?_, ?_, ?_⟩ <;> first | omega | (simp; done) | (simp; omega)
theorem below_two (W : World) (o1 o2 : Obj) : Below W.heap.size W ((W.alloc o1).alloc o2) := ((Below.refl _ _).alloc (Nat.le_refl _) _).alloc (by simp) _
theorem Two.three {W : World} {p q : Nat} {sa : Option Addr} {n cap : Nat} {t : ByteArray} {B i s : Nat} (h : Two W p q sa n cap t B i s) (hB : B < W.heap.size) (a : Atm) (ty : TypeId) : Three (W.alloc (.cells #[.string a.c, .int .i64 a.l, .int .i64 a.m] ty)) p q W.heap.size sa n cap t B i s a := by
  have h2 := h.turn (Turn.of (B := B) ((Below.refl W.heap.size W).alloc (Nat.le_refl _) (.cells #[.string a.c, .int .i64 a.l, .int .i64 a.m] ty)))
  exact ⟨h2.m0, h2.m1, h2.m2, h2.q0, h2.q1, by simp, by simp, by simp, h2.lp, h2.lq, by simp, h2.np, h2.nq, by omega⟩
theorem far_cast {t : ByteArray} {g : Nat → Atm} {n i s : Nat} {v : Int} (hi : i < n) (h : Far t (g i :: (atomsL g n).drop (i + 1)) s v) : Far t ((atomsL g n).drop i) s v := by
  rw [atomsL_drop hi]
  exact h
end Go.Proofs.Ytfeolbgenpknfaa
