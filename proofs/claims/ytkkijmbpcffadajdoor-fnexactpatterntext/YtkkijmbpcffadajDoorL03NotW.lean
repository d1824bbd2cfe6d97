/- What is proved here: the specification's ClassNot hands back the class of what is not in a right one, or nothing; nothing that was there turns. -/
import Derived.Test.YtkkijmbpcffadajDoorClassRightW
import Derived.Test.YtkkijmbpcffadajDoorClassRowW
namespace Go.Proofs.YtkkijmbpcffadajDoor
open Go.RowKit

set_option maxRecDepth 100000 in
set_option maxHeartbeats 2000000 in
theorem l03Not_any (c : ByteArray) (w : World) (hc : c.size ≤ maxLen) :
    Calls Tryd.prog 37 #[.string c] w fun e w' => e = .returned (.string (classT (fun x => !hasByte c x))) ∧ Below w.heap.size w w' := by
  have HC : Hid (c.size ≤ maxLen) := hc
  clear hc
  go_enter Tryd.func37, Tryd.ntmps37
  go_wp2_with fail
  refine (l03Row_any c w HC.out).mono ?_
  rintro e w3 ⟨g, rfl, hg, hb3, ho3⟩
  have B3 : Hid (Below w.heap.size w w3) := hb3
  have O3 : Hid (OwnB w3 g 256 (hasByte c)) := ho3
  clear hb3 ho3
  go_wp2
  go_loopw [4] (fun i wr => ∃ k : Nat, k ≤ 256 ∧ i = .int .i64 (k : Int) ∧ Below w.heap.size w wr ∧ OwnB wr g 256 (fun x => if x < k then !hasByte c x else hasByte c x)) (fun i _ => 256 - (intOf i).toNat)
  case atStart => exact ⟨0, Nat.zero_le _, rfl, B3.out, O3.out.congr (fun i _ => by simp)⟩
  case round =>
    obtain ⟨k, hk, rfl, hbel, hown⟩ := hrel
    have HW : Hid (Below w.heap.size w wr) := hbel
    have HX : Hid (OwnB wr g 256 (fun x => if x < k then !hasByte c x else hasByte c x)) := hown
    by_cases hlt : k < 256
    · have cy : wr.cell? ⟨g, k, none⟩ = some (.bool (hasByte c k)) := by have := hown.2.1 k hlt; rw [this]; simp
      have cf := hown.2.2 k hlt
      have lg := hown.1
      have hk0 : (0 : Int) ≤ (k : Int) := by omega
      have hk1 : (k : Int) < 256 := by omega
      clear hbel hown
      go_wp2
      go_roundw
      case rel => exact ⟨k + 1, by omega, by go_num, HW.out.setCell (by show w.heap.size ≤ g; omega) _, (HX.out.set hlt (!hasByte c k)).congr (fun i _ => by
        by_cases e : i = k
        · subst e; simp
        · simp only [if_neg e]
          by_cases e2 : i < k
          · rw [if_pos e2, if_pos (by omega)]
          · rw [if_neg e2, if_neg (by omega)])⟩
      case measure => simp [intOf]; omega
    · have hge : ¬ (k : Int) < 256 := by omega
      clear hbel hown
      go_wp2_with fail
      refine (l03From_any g _ wr (HX.out.congr (fun i hi => if_pos (by omega)))).mono ?_
      rintro e w5 ⟨rfl, hb5⟩
      have B5 : Hid (Below w.heap.size w w5) := HW.out.trans (hb5.mono HW.out.size)
      clear hb5
      go_wp2
      go_ret
      exact ⟨rfl, B5.out⟩
end Go.Proofs.YtkkijmbpcffadajDoor
