/- What is proved here: the program closes places by one subtraction; nothing that was there turns. -/
import Derived.Test.YthnnenbpbkmbhaaQStepM
import Derived.Test.YthnnenbpbkmbhaaQRowOfW
namespace Go.Proofs.Ythnnenbpbkmbhaa
open Go.RowKit

/-- A row with its masks, in its block. -/
structure MRow (W : World) (r b fi la bl st fin : Nat) : Prop where
  c0 : W.cell? ⟨r, 0, none⟩ = some (.pointer (some ⟨b, 0, none⟩))
  c1 : W.cell? ⟨r, 1, none⟩ = some (.int .u64 (fi : Int))
  c2 : W.cell? ⟨r, 2, none⟩ = some (.int .u64 (la : Int))
  c3 : W.cell? ⟨r, 3, none⟩ = some (.int .u64 (bl : Int))
  c4 : W.cell? ⟨r, 4, none⟩ = some (.int .u64 (st : Int))
  c5 : W.cell? ⟨r, 5, none⟩ = some (.int .u64 (fin : Int))
  lt : r < W.heap.size
theorem MRow.kept {W W' : World} {B r b fi la bl st fin : Nat} (h : MRow W r b fi la bl st fin) (hb : Below B W W') (hB : r < B) : MRow W' r b fi la bl st fin :=
  ⟨by rw [hb.cell (p := ⟨r, 0, none⟩) hB]; exact h.c0, by rw [hb.cell (p := ⟨r, 1, none⟩) hB]; exact h.c1, by rw [hb.cell (p := ⟨r, 2, none⟩) hB]; exact h.c2, by rw [hb.cell (p := ⟨r, 3, none⟩) hB]; exact h.c3, by rw [hb.cell (p := ⟨r, 4, none⟩) hB]; exact h.c4, by rw [hb.cell (p := ⟨r, 5, none⟩) hB]; exact h.c5, Nat.lt_of_lt_of_le h.lt hb.size⟩
theorem MRow.grown {W W' : World} {g r b fi la bl st fin : Nat} (h : MRow W r b fi la bl st fin) (hg : W.grownBy W' (some g)) (hne : r ≠ g) : MRow W' r b fi la bl st fin := by
  have hb := hg.block r h.lt (fun e => hne (by injection e))
  refine ⟨?_, ?_, ?_, ?_, ?_, ?_, Nat.lt_of_lt_of_le h.lt hg.size⟩
  · have := h.c0
    simpa [World.cell?, hb] using this
  · have := h.c1
    simpa [World.cell?, hb] using this
  · have := h.c2
    simpa [World.cell?, hb] using this
  · have := h.c3
    simpa [World.cell?, hb] using this
  · have := h.c4
    simpa [World.cell?, hb] using this
  · have := h.c5
    simpa [World.cell?, hb] using this
/-- What the masks of a row hold. -/
structure MasksOk (S : Nat → Bool) (n fi la bl st fin : Nat) : Prop where
  h0 : S 0 = false
  hS : ∀ j, n < j → S j = false
  f : IsBits fi (firstB S)
  l : IsBits la (lastB S)
  b : IsBits bl S
  s : IsBits st (fun j => decide (0 = j))
  e : IsBits fin (fun j => decide (n = j))
set_option maxRecDepth 100000 in
set_option maxHeartbeats 4000000 in
theorem once_any (r b a fi la bl st fin n : Nat) (S A : Nat → Bool) (w : World) (hn : n ≤ 60) (hr : MRow w r b fi la bl st fin) (hm : MasksOk S n fi la bl st fin) (ha : IsBits a A) (hA : ∀ j, n < j → A j = false) :
    Calls Try.prog 167 #[.pointer (some ⟨r, 0, none⟩), .int .u64 (a : Int)] w fun e w' => ∃ x : Nat, e = .returned (.int .u64 (x : Int)) ∧ IsBits x (cloB S A) ∧ Below w.heap.size w w' := by
  obtain ⟨c0, c1, c2, c3, c4, c5, hlt⟩ := hr
  obtain ⟨hle, hX⟩ := clo_sub (n := n) (by omega) hm.h0 hm.hS hA ha hm.b hm.f hm.l
  have hd := ha.or hm.l
  have e1 : bits .or .u64 (a : Int) (la : Int) = ((a ||| la : Nat) : Int) := or64 ha.lt hm.l.lt
  have hdl := hd.lt
  have hfl := hm.f.lt
  have hbl := hm.b.lt
  have hal := ha.lt
  have HX : Hid (IsBits (a ||| (bl ^^^ (bl &&& (((a ||| la) - fi) ^^^ (a ||| la))))) (cloB S A)) := hX
  have hsl : (a ||| la) - fi < 18446744073709551616 := by omega
  have e2 : bits .xor .u64 ((((a ||| la) - fi : Nat)) : Int) ((a ||| la : Nat) : Int) = ((((a ||| la) - fi) ^^^ (a ||| la) : Nat) : Int) := xor64 hsl hdl
  have e3 : bits .andNot .u64 (bl : Int) (((((a ||| la) - fi) ^^^ (a ||| la) : Nat)) : Int) = ((bl ^^^ (bl &&& (((a ||| la) - fi) ^^^ (a ||| la))) : Nat) : Int) := andNot64 hbl
  have hvl : bl ^^^ (bl &&& (((a ||| la) - fi) ^^^ (a ||| la))) < 18446744073709551616 := Nat.xor_lt_two_pow (n := 64) hbl (and_lt64 hbl)
  have e4 : bits .or .u64 (a : Int) ((bl ^^^ (bl &&& (((a ||| la) - fi) ^^^ (a ||| la))) : Nat) : Int) = ((a ||| (bl ^^^ (bl &&& (((a ||| la) - fi) ^^^ (a ||| la)))) : Nat) : Int) := or64 hal hvl
  generalize a ||| (bl ^^^ (bl &&& (((a ||| la) - fi) ^^^ (a ||| la)))) = x at *
  generalize bl ^^^ (bl &&& (((a ||| la) - fi) ^^^ (a ||| la))) = v at *
  generalize ((a ||| la) - fi) ^^^ (a ||| la) = y at *
  generalize a ||| la = d at *
  have hsub : ((d - fi : Nat) : Int) = (d : Int) - (fi : Int) := by omega
  rw [hsub] at e2
  have hwr : IntKind.u64.wrap ((d : Int) - (fi : Int)) = (d : Int) - (fi : Int) := by rw [IntKind.wrap_u64]; omega
  clear hm ha hA hd hX hsl hvl hal hsub
  go_enter Try.func167, Try.ntmps167
  go_wp2_with fail
  go_quiet (fail)
  go_wp2_with fail
  go_ret
  exact ⟨x, rfl, HX.out, ⟨rfl, rfl, rfl, Nat.le_refl _, fun _ _ => rfl⟩⟩
end Go.Proofs.Ythnnenbpbkmbhaa
