/- What is proved here: a text turned into a slice of bytes, as a walk uses it. -/
import Derived.Test.YtpdedggnjcnpgaaDrawTextW
import Derived.Lib.ConvBytes
namespace Go.Proofs.Ytpdedggnjcnpgaa
open Go.RowKit Go.Lib

/-- The bytes of a text lie in a row of the call's own. -/
def RowOf (w : World) (g : Nat) (l : List UInt8) : Prop := (∀ j, j < l.length → w.cell? ⟨g, j, none⟩ = some (.int .u8 ((l.getD j 0).toNat : Int))) ∧ ∀ j, j < l.length → w.frozen? ⟨g, j, none⟩ = false
theorem toBytes (w : World) (s : ByteArray) : ∃ w' cap, (convert 9 22 (.string s)).run Try.prog w = .ok (.slice (some ⟨w.heap.size, 0, none⟩) s.size cap) w' ∧ Below w.heap.size w w' ∧ w.heap.size < w'.heap.size ∧ RowOf w' w.heap.size s.data.toList := by
  refine ⟨bytesWorld w 5 s, _, Lib.run_convert_string_bytes w 9 22 5 s Try.underlying9 Try.underlying22 Try.underlying5, ⟨rfl, rfl, rfl, by rw [bytesWorld_size]; omega, fun k hk => bytesWorld_at_old w _ s k hk⟩, by rw [bytesWorld_size]; omega, fun j hj => bytesWorld_cell w _ s j (by rw [size_eq]; exact hj), fun j hj => ?_⟩
  have h := bytesWorld_at_new w 5 s
  have hj' : j < (bytesCells w 5 s).size := by
    have : s.size ≤ (bytesCells w 5 s).size := by unfold bytesCells; rw [Array.size_append, Array.size_map, ByteArray.size_data]; omega
    rw [size_eq] at this
    omega
  simp [World.frozen?, h]
  omega
/-- A row of bytes turned back into a text. -/
theorem ofBytes (w : World) (g n cap : Nat) (l : List UInt8) (hn : l.length = n) (h : RowOf w g l) : (convert 22 9 (.slice (some ⟨g, 0, none⟩) n cap)).run Try.prog w = .ok (.string ⟨l.toArray⟩) w := by
  have hc := run_convert_bytes_arg (P := Try.prog) w 22 5 Try.underlying22 Try.underlying5 g 0 n cap (l.map fun b => (b.toNat : Int)) (by simp [hn]) (fun i hi => by
    rw [Nat.zero_add, h.1 i (by omega)]
    simp [List.getD, List.getElem?_map, List.getElem?_eq_getElem (show i < l.length by omega)]) 9 Try.underlying9
  rw [strOfNums_bytes] at hc
  exact hc
theorem RowOf.kept {w w' : World} {B g : Nat} {l : List UInt8} (h : RowOf w g l) (hb : Below B w w') (hg : g < B) : RowOf w' g l :=
  ⟨fun j hj => by rw [hb.cell (p := ⟨g, j, none⟩) hg]; exact h.1 j hj, fun j hj => by rw [hb.frozen (p := ⟨g, j, none⟩) hg]; exact h.2 j hj⟩
theorem RowOf.set {w : World} {g p : Nat} {l : List UInt8} {v : Int} (h : RowOf w g l) (hp : p < l.length) (h0 : 0 ≤ v) (h1 : v < 256) : RowOf (w.setCell ⟨g, p, none⟩ (.int .u8 v)) g (l.set p (UInt8.ofNat v.toNat)) := by
  refine ⟨fun j hj => ?_, fun j hj => ?_⟩
  · rw [List.length_set] at hj
    by_cases e : j = p
    · subst e
      rw [World.cell?_setCell_same _ _ _ (h.1 j hj)]
      simp [List.getD, List.getElem?_set_self hj]
      omega
    · rw [World.cell?_setCell_other _ _ _ _ (fun hh => e (by injection hh with _ h2 _; exact h2.symm)), h.1 j hj]
      simp [List.getD, List.getElem?_set_ne (Ne.symm e)]
  · rw [List.length_set] at hj
    rw [World.frozen?_setCell]
    exact h.2 j hj
end Go.Proofs.Ytpdedggnjcnpgaa
