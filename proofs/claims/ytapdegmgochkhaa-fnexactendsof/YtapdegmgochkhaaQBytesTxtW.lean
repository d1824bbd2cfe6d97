/- What is proved here: a text turned into a slice of bytes, and back, as a walk uses it. -/
import Derived.Test.YtapdegmgochkhaaProg
import Derived.WalkKit
import Derived.WalkSpells
import Derived.Laws.BytesArg
import Derived.Lib.ConvBytes
namespace Go.Proofs.Ytapdegmgochkhaa
open Go.RowKit Go.Lib

theorem bsize_eq (s : ByteArray) : s.size = s.data.toList.length := by simp
/-- The bytes of a list lie in a row that may be written. -/
def BRow (w : World) (g : Nat) (l : List UInt8) : Prop := g < w.heap.size ∧ (∀ j, j < l.length → w.cell? ⟨g, j, none⟩ = some (.int .u8 ((l.getD j 0).toNat : Int))) ∧ ∀ j, j < l.length → w.frozen? ⟨g, j, none⟩ = false
theorem text_bytes (w : World) (s : ByteArray) : ∃ w' cap, (convert 9 70 (.string s)).run Try.prog w = .ok (.slice (some ⟨w.heap.size, 0, none⟩) s.size cap) w' ∧ Below w.heap.size w w' ∧ BRow w' w.heap.size s.data.toList := by
  refine ⟨bytesWorld w 5 s, _, Lib.run_convert_string_bytes w 9 70 5 s Try.underlying9 Try.underlying70 Try.underlying5, ⟨rfl, rfl, rfl, by rw [bytesWorld_size]; omega, fun k hk => bytesWorld_at_old w _ s k hk⟩, by rw [bytesWorld_size]; omega, fun j hj => bytesWorld_cell w _ s j (by rw [bsize_eq]; exact hj), fun j hj => ?_⟩
  have h := bytesWorld_at_new w 5 s
  have hj' : j < (bytesCells w 5 s).size := by
    have : s.size ≤ (bytesCells w 5 s).size := by unfold bytesCells; rw [Array.size_append, Array.size_map, ByteArray.size_data]; omega
    rw [bsize_eq] at this
    omega
  simp [World.frozen?, h]
  omega
theorem nums_bytes (l : List UInt8) : strOfNums (l.map fun b => (b.toNat : Int)) = ⟨l.toArray⟩ := by
  unfold strOfNums
  rw [List.map_map]
  congr 2
  rw [show ((fun n : Int => UInt8.ofNat n.toNat) ∘ fun b : UInt8 => (b.toNat : Int)) = id from by funext b; simp]
  simp
theorem bytes_text (w : World) (g n cap : Nat) (l : List UInt8) (hn : l.length = n) (h : BRow w g l) : (convert 70 9 (.slice (some ⟨g, 0, none⟩) n cap)).run Try.prog w = .ok (.string ⟨l.toArray⟩) w := by
  have hc := run_convert_bytes_arg (P := Try.prog) w 70 5 Try.underlying70 Try.underlying5 g 0 n cap (l.map fun b => (b.toNat : Int)) (by simp [hn]) (fun i hi => by
    rw [Nat.zero_add, h.2.1 i (by omega)]
    simp [List.getD, List.getElem?_map, List.getElem?_eq_getElem (show i < l.length by omega)]) 9 Try.underlying9
  rw [nums_bytes] at hc
  exact hc
theorem BRow.set {w : World} {g p : Nat} {l : List UInt8} (h : BRow w g l) (hp : p < l.length) (x : UInt8) : BRow (w.setCell ⟨g, p, none⟩ (.int .u8 (x.toNat : Int))) g (l.set p x) := by
  refine ⟨by simpa [World.setCell] using h.1, fun j hj => ?_, fun j hj => ?_⟩
  · rw [List.length_set] at hj
    by_cases e : j = p
    · subst e
      rw [World.cell?_setCell_same _ _ _ (h.2.1 j hj)]
      simp [List.getD, List.getElem?_set_self hj]
    · rw [World.cell?_setCell_other _ _ _ _ (fun hh => e (by injection hh with _ h2 _; exact h2.symm)), h.2.1 j hj]
      simp [List.getD, List.getElem?_set_ne (Ne.symm e)]
  · rw [List.length_set] at hj
    rw [World.frozen?_setCell]
    exact h.2.2 j hj
theorem BRow.drew {w : World} {g : Nat} {l : List UInt8} (h : BRow w g l) : BRow w.drew g l := h
end Go.Proofs.Ytapdegmgochkhaa
