/- What is said here: rows of cells in a stretch of blocks; how calls leave them.
   What is proved here: a slice of one byte in a new block, made into a text.
   What is said here: the digits of a number, as a plain function.
   What is proved here: the laws' markText hands back a text that hangs on its number alone; nothing that was there turns. -/
import Derived.Test.YtbdjjggaahjjpaaQCellD
import Derived.Test.YtbdjjggaahjjpaaProg
import Derived.WalkKit
import Derived.Laws.BytesArg
namespace Go.Proofs.Ytbdjjggaahjjpaa
open Go.RowKit

/-- Some block of a stretch turned, no other. -/
def OnlyC (W W' : World) (lo hi : Nat) : Prop := ∃ row : Option Nat, W.grownBy W' row ∧ ∀ g, row = some g → lo ≤ g ∧ g < hi
theorem OnlyC.below {W W' : World} {lo hi B : Nat} (h : OnlyC W W' lo hi) (hB : B ≤ lo) (hs : B ≤ W.heap.size) : Below B W W' := by
  obtain ⟨row, hg, hr⟩ := h
  exact ⟨hg.os, hg.tape, hg.output, hg.size, fun k hk => hg.block k (by omega) (fun e => by have := hr k e.symm; omega)⟩
theorem OnlyC.size {W W' : World} {lo hi : Nat} (h : OnlyC W W' lo hi) : W.heap.size ≤ W'.heap.size := by
  obtain ⟨row, hg, hr⟩ := h
  exact hg.size
/-- A row of cells in a stretch of blocks. -/
def CSl (W : World) (lo hi : Nat) (sa : Option Addr) (n : Nat) (f : Nat → Cel) : Prop := n = 0 ∨ ∃ g, sa = some ⟨g, 0, none⟩ ∧ lo ≤ g ∧ g < hi ∧ COwn W g n f
theorem CSl.row {W : World} {lo hi n : Nat} {sa : Option Addr} {f : Nat → Cel} (h : CSl W lo hi sa n f) : CRow W W.heap.size sa n f := by
  rcases h with h | ⟨g, rfl, _, _, h3⟩
  · exact Or.inl h
  · exact h3.row h3.lt
theorem CSl.kept {W W' : World} {lo hi n : Nat} {sa : Option Addr} {f : Nat → Cel} (h : CSl W lo hi sa n f) (hb : Below W.heap.size W W') : CSl W' lo hi sa n f := by
  rcases h with h | ⟨g, h1, h2, h4, h3⟩
  · exact Or.inl h
  · exact Or.inr ⟨g, h1, h2, h4, h3.kept hb h3.lt⟩
theorem COwn.other {W W' : World} {g n : Nat} {row : Option Nat} {f : Nat → Cel} (h : COwn W g n f) (hg : W.grownBy W' row) (hne : row ≠ some g) : COwn W' g n f := by
  have hb := hg.block g h.lt (fun e => hne e.symm)
  refine ⟨Nat.lt_of_lt_of_le h.lt hg.size, fun i hi => ⟨?_, ?_, ?_⟩, fun i hi => ?_⟩
  · have := (h.at' i hi).c0
    simpa [World.cell?, hb] using this
  · have := (h.at' i hi).c1
    simpa [World.cell?, hb] using this
  · have := (h.at' i hi).c2
    simpa [World.cell?, hb] using this
  · have := h.free i hi
    simpa [World.frozen?, hb] using this
theorem CSl.only {W W' : World} {lo hi lo' hi' n : Nat} {sa : Option Addr} {f : Nat → Cel} (h : CSl W lo hi sa n f) (ho : OnlyC W W' lo' hi') (hd : hi ≤ lo' ∨ hi' ≤ lo) : CSl W' lo hi sa n f := by
  rcases h with h | ⟨g, h1, h2, h4, h3⟩
  · exact Or.inl h
  · obtain ⟨row, hg, hr⟩ := ho
    exact Or.inr ⟨g, h1, h2, h4, h3.other hg (fun e => by have := hr g e; omega)⟩
/-- A slice of cells in new memory. -/
def NewCells (w : World) (n : Nat) (f : Nat → Cel) (e : Ending) (w' : World) : Prop := ∃ (sa : Option Addr) (cap : Nat), e = .returned (.slice sa n cap) ∧ Below w.heap.size w w' ∧ CSl w' w.heap.size w'.heap.size sa n f
theorem grown_of_belowC {w w' : World} {row : Option Nat} (h : Below w.heap.size w w') : w.grownBy w' row := ⟨h.os, h.tape, h.output, h.size, fun k hk _ => h.block k hk⟩
end Go.Proofs.Ytbdjjggaahjjpaa
namespace Go.Proofs.Ytbdjjggaahjjpaa
open Go.RowKit

/-- The text of one byte. -/
def one (x : Int) : ByteArray := strOfNums [x]
theorem one_size (x : Int) : (one x).size = 1 := by unfold one; rw [strOfNums_size]; rfl
theorem conv_one (x : Int) (w : World) : (convert 123 9 (Value.slice (some ⟨w.heap.size, 0, none⟩) 1 1)).run Try.prog (w.alloc (.cells #[.int .u8 x] 5)) = .ok (.string (one x)) (w.alloc (.cells #[.int .u8 x] 5)) :=
  run_convert_bytes_arg (P := Try.prog) _ 123 5 Try.underlying123 Try.underlying5 w.heap.size 0 1 1 [x] rfl (fun i hi => by
    rw [Nat.zero_add, World.cell?_alloc_mark]
    match i, hi with
    | 0, _ => rfl) 9 Try.underlying9
end Go.Proofs.Ytbdjjggaahjjpaa
namespace Go.Proofs.Ytbdjjggaahjjpaa
open Go.RowKit

/-- The digits of a number ahead of a text. -/
def mdig (n : Nat) (acc : ByteArray) : ByteArray := if n = 0 then acc else mdig (n / 10) (one (48 + ((n % 10 : Nat) : Int)) ++ acc)
termination_by n
decreasing_by omega
theorem mdig_zero (acc : ByteArray) : mdig 0 acc = acc := by rw [mdig, if_pos rfl]
theorem mdig_some {n : Nat} (h : n ≠ 0) (acc : ByteArray) : mdig n acc = mdig (n / 10) (one (48 + ((n % 10 : Nat) : Int)) ++ acc) := by rw [mdig, if_neg h]
/-- A number of one digit or two. -/
def decL (n : Nat) : List Int := if n < 10 then [48 + (n : Int)] else [48 + ((n / 10 : Nat) : Int), 48 + ((n % 10 : Nat) : Int)]
def decT (n : Nat) : ByteArray := strOfNums (decL n)
theorem strApp2 (a b : List Int) : strOfNums (a ++ b) = strOfNums a ++ strOfNums b := by
  unfold strOfNums
  apply ByteArray.ext
  simp
theorem mdig_dec {k : Nat} (h0 : 0 < k) (h1 : k < 100) : mdig k ⟨#[]⟩ = decT k := by
  unfold decT decL
  rw [mdig_some (by omega)]
  by_cases h : k < 10
  · rw [if_pos h, show k / 10 = 0 by omega, mdig_zero, show k % 10 = k by omega]
    show strOfNums [48 + (k : Int)] ++ strOfNums [] = _
    rw [← strApp2]
    rfl
  · rw [if_neg h, mdig_some (by omega), show k / 10 / 10 = 0 by omega, mdig_zero, show k / 10 % 10 = k / 10 by omega]
    show strOfNums [48 + ((k / 10 : Nat) : Int)] ++ (strOfNums [48 + ((k % 10 : Nat) : Int)] ++ strOfNums []) = _
    rw [← strApp2, ← strApp2]
    rfl
theorem decT_size (k : Nat) : 1 ≤ (decT k).size ∧ (decT k).size ≤ 2 := by
  unfold decT decL
  rw [strOfNums_size]
  split <;> simp
end Go.Proofs.Ytbdjjggaahjjpaa
namespace Go.Proofs.Ytbdjjggaahjjpaa
open Go.RowKit

/-- The text of a mark. -/
def mtext (k : Nat) : ByteArray := (⟨#[109]⟩ : ByteArray) ++ mdig k ⟨#[]⟩
theorem app_size (a b : ByteArray) : (a ++ b).size = a.size + b.size := ByteArray.size_append

set_option maxHeartbeats 1000000 in
theorem markText_any (k : Nat) (w : World) (h0 : 0 < k) (h1 : k ≤ 1099511627776) :
    Calls Try.prog 77 #[.int .i64 (k : Int)] w fun e w' => e = .returned (.string (mtext k)) ∧ Below w.heap.size w w' := by
  have h2 : ¬ (k : Int) ≤ 0 := by omega
  go_enter Try.func77, Try.ntmps77
  go_wp2
  go_loopw [0, 3] (fun j o wr => ∃ (x : Nat) (t : ByteArray), j = .int .i64 (x : Int) ∧ o = .string t ∧ x + t.size ≤ k ∧ mdig x t = mdig k ⟨#[]⟩ ∧ Below w.heap.size w wr) (fun j _ _ => (intOf j).toNat)
  case atStart => exact ⟨k, ⟨#[]⟩, rfl, rfl, Nat.le_refl _, rfl, Below.refl _ _⟩
  case round =>
    obtain ⟨x, t, rfl, rfl, hx, hm, hbel⟩ := hrel
    have HB : Hid (Below w.heap.size w wr) := hbel
    have HM : Hid (mdig x t = mdig k ⟨#[]⟩) := hm
    clear hbel hm
    by_cases hx0 : x = 0
    · subst hx0
      have hle : ¬ (0 : Int) < ((0 : Nat) : Int) := by omega
      go_wp2
      go_ret
      refine ⟨?_, HB.out⟩
      show Ending.returned (.string ((⟨#[109]⟩ : ByteArray) ++ t)) = _
      unfold mtext
      rw [← HM.out, mdig_zero]
    · have hpos : (0 : Int) < (x : Int) := by omega
      have hx1 : (x : Int) ≤ 1099511627776 := by omega
      have HN : Hid (mdig x t = mdig (x / 10) (one (48 + ((x % 10 : Nat) : Int)) ++ t)) := mdig_some hx0 t
      have hcv := fun v => conv_one v wr
      have hw : IntKind.u8.wrap (48 + (x : Int) % 10) = 48 + (x : Int) % 10 := by rw [IntKind.wrap_u8]; omega
      have hlen : ¬ 9223372036854775807 < (one (48 + (x : Int) % 10)).size + t.size := by rw [one_size]; omega
      go_wp2
      go_roundw
      case rel =>
        refine ⟨x / 10, one (48 + ((x % 10 : Nat) : Int)) ++ t, by go_num, ?_, ?_, by rw [← HN.out]; exact HM.out, HB.out.alloc HB.out.size _⟩
        · rw [show ((x % 10 : Nat) : Int) = (x : Int) % 10 by omega]
        · rw [app_size, one_size]
          have : x / 10 < x := by omega
          omega
      case measure => simp [intOf]; omega
end Go.Proofs.Ytbdjjggaahjjpaa
