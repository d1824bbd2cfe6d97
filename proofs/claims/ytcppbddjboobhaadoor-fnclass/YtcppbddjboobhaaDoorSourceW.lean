/- What is proved here: l01Source makes a source over the bytes that it is handed, in a new block. -/
import Derived.Test.YtcppbddjboobhaaDoorDrawW
namespace Go.Proofs.YtcppbddjboobhaaDoor
open Go.RowKit

/-- A pointer to a source in a new block. -/
def NewSrc (w : World) (sa : Option Addr) (len cap : Nat) (e : Ending) (w' : World) : Prop := e = .returned (.pointer (some ⟨w.heap.size, 0, none⟩)) ∧ Below w.heap.size w w' ∧ Src w' w.heap.size sa len cap
theorem SrcAt.setSize {w : World} {b : Nat} {sa : Option Addr} {len cap k : Nat} {m z z' : Int} (h : SrcAt w b sa len cap k m z) : SrcAt (w.setCell ⟨b, 3, none⟩ (.int .i64 z')) b sa len cap k m z' := by
  obtain ⟨h, r⟩ := h
  exact ⟨by rw [heap_setCell_same w b 3 _ _ _ h]; rfl, r⟩

theorem wrap_range64 (x : Int) : 0 ≤ IntKind.u64.wrap x ∧ IntKind.u64.wrap x ≤ 18446744073709551615 := by
  rw [IntKind.wrap_u64]
  omega

set_option maxRecDepth 100000 in
set_option maxHeartbeats 4000000 in
theorem source_any (w : World) (sa : Option Addr) (len cap : Nat) (hl : len ≤ 1048576) (hby : Bytes8 w w.heap.size sa len) :
    Calls Tryd.prog 66 #[.slice sa len cap] w fun e w' => NewSrc w sa len cap e w' := by
  have HBY : Hid (Bytes8 w w.heap.size sa len) := hby
  clear hby
  go_enter Tryd.func66, Tryd.ntmps66
  go_wp2
  go_loopw [4] (fun i wr => ∃ (k : Nat) (m : Int), k ≤ len ∧ i = .int .i64 (k : Int) ∧ Below w.heap.size w wr ∧ SrcAt wr w.heap.size sa len cap 0 m 0) (fun i _ => len - (intOf i).toNat)
  case atStart => exact ⟨0, _, Nat.zero_le _, rfl, (Below.refl _ _).alloc (Nat.le_refl _) _, heap_alloc_new w _, Nat.zero_le _, by decide, by decide⟩
  case round =>
    obtain ⟨k, m, hk, rfl, hbel, hat⟩ := hrel
    have HB : Hid (Below w.heap.size w wr) := hbel
    have HS : Hid (SrcAt wr w.heap.size sa len cap 0 m 0) := hat
    obtain ⟨c0, c1, c2, c3, f1, f2, f3⟩ := hat.cells
    obtain ⟨_, _, hm0, hm1⟩ := hat
    clear hbel
    by_cases hkl : k < len ∧ k < 64
    · obtain ⟨hk1, hk2⟩ := hkl
      obtain ⟨bb, off, zs, rfl, hbb, hcell, hzs⟩ : ∃ (bb off : Nat) (zs : Nat → Int), sa = some ⟨bb, off, none⟩ ∧ bb < w.heap.size ∧ (∀ i, i < len → w.cell? ⟨bb, off + i, none⟩ = some (.int .u8 (zs i))) ∧ ∀ i : Nat, 0 ≤ zs i ∧ zs i ≤ 255 := by
        rcases HBY.out with h | h
        · omega
        · exact h
      have cz : wr.cell? ⟨bb, off + k, none⟩ = some (.int .u8 (zs k)) := by rw [HB.out.cell (p := ⟨bb, off + k, none⟩) hbb]; exact hcell k hk1
      have hz := hzs k
      clear hcell hzs
      have hki : (k : Int) < (len : Int) := by omega
      have hk0 : (0 : Int) ≤ (k : Int) := by omega
      have hk64 : (k : Int) < 64 := by omega
      go_wp2
      go_region
      go_wp2
      go_roundw
      case rel => exact ⟨k + 1, _, by omega, by go_num, (HB.out.setCell (Nat.le_refl _) _).drew, (HS.out.setMix (wrap_range64 _).1 (wrap_range64 _).2).drew⟩
      case measure => simp [intOf]; omega
    · have HK : Hid (∀ {w' : World}, Below w.heap.size w w' → w.grownBy w' none) := fun h => ⟨h.os, h.tape, h.output, h.size, fun k hk _ => h.block k hk⟩
      by_cases hkl1 : k < len
      · have hk64 : ¬ (k : Int) < 64 := by omega
        have hki : (k : Int) < (len : Int) := by omega
        go_wp2
        all_goals go_ret
        all_goals first
          | exact ⟨rfl, HB.out.setCell (Nat.le_refl _) _, hl, HBY.out.kept (HK.out (HB.out.setCell (p := ⟨w.heap.size, 3, none⟩) (Nat.le_refl _) _)) (fun k hk => by cases hk), 0, m, _, HS.out.setSize⟩
          | exact ⟨rfl, (HB.out.setCell (Nat.le_refl _) _).setCell (Nat.le_refl _) _, hl, HBY.out.kept (HK.out ((HB.out.setCell (p := ⟨w.heap.size, 3, none⟩) (Nat.le_refl _) _).setCell (p := ⟨w.heap.size, 3, none⟩) (Nat.le_refl _) _)) (fun k hk => by cases hk), 0, m, _, HS.out.setSize.setSize⟩
      · have hki : ¬ (k : Int) < (len : Int) := by omega
        go_wp2
        all_goals go_ret
        all_goals first
          | exact ⟨rfl, HB.out.setCell (Nat.le_refl _) _, hl, HBY.out.kept (HK.out (HB.out.setCell (p := ⟨w.heap.size, 3, none⟩) (Nat.le_refl _) _)) (fun k hk => by cases hk), 0, m, _, HS.out.setSize⟩
          | exact ⟨rfl, (HB.out.setCell (Nat.le_refl _) _).setCell (Nat.le_refl _) _, hl, HBY.out.kept (HK.out ((HB.out.setCell (p := ⟨w.heap.size, 3, none⟩) (Nat.le_refl _) _).setCell (p := ⟨w.heap.size, 3, none⟩) (Nat.le_refl _) _)) (fun k hk => by cases hk), 0, m, _, HS.out.setSize.setSize⟩
end Go.Proofs.YtcppbddjboobhaaDoor
