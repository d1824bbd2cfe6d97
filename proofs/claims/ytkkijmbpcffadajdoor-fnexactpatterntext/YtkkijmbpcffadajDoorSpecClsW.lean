/- What is proved here: the specification's l04Class and ClassText hand back the text of a class; nothing that was there turns. -/
import Derived.Test.YtkkijmbpcffadajDoorSpecRunsW
namespace Go.Proofs.YtkkijmbpcffadajDoor
open Go.RowKit

/-- What is not in a class. -/
def notS (c : ByteArray) : ByteArray := classT (fun i => !hasByte c i)
/-- The text of a class. -/
def clsS (c : ByteArray) : ByteArray := strOfNums (clsL c (notS c))

set_option maxRecDepth 100000 in
set_option maxHeartbeats 4000000 in
theorem l04Class_any (c : ByteArray) (w : World) (h0 : 0 < c.size) (h256 : c.size ≤ 256) :
    Calls Tryd.prog 17 #[.string c] w fun e w' => e = .returned (.string (clsS c)) ∧ Below w.heap.size w w' := by
  have hc : c.size ≤ maxLen := by unfold maxLen; omega
  have HN : Hid (∀ W, Calls Tryd.prog 37 #[.string c] W fun e w' => e = .returned (.string (notS c)) ∧ Below W.heap.size W w') := fun W => l03Not_any c W hc
  have HNS : Hid ((notS c).size ≤ 256) := classT_size _
  have HE : Hid (clsS c = strOfNums (clsL c (notS c))) := rfl
  generalize notS c = nc at *
  generalize clsS c = ct at *
  clear hc
  by_cases h1 : c.size = 1
  · have t1 : ((c.size : Int) == 1) = true := by simp; omega
    have HL : Hid (ct = strOfNums (byteL c[0].toNat)) := by show ct = _; rw [HE.out]; unfold clsL; rw [if_pos h1, get_of h0]
    have hb0 : Hid (c[0].toNat < 256) := c[0].toNat_lt
    clear h1 HN HNS HE
    go_enter Tryd.func17, Tryd.ntmps17
    go_wp2_with fail
    refine (l04Byte_any c[0].toNat w hb0.out).mono ?_
    rintro e w2 ⟨rfl, hb⟩
    have B2 : Hid (Below w.heap.size w w2) := hb
    clear hb
    rw [← HL.out]
    go_wp2_with fail
    go_ret
    exact ⟨rfl, B2.out⟩
  by_cases h2 : c.size = 256
  · have t1 : ((c.size : Int) == 1) = false := by simp; omega
    have t2 : ((c.size : Int) == 256) = true := by simp; omega
    have HL : Hid (ct = ⟨#[46]⟩) := by show ct = _; rw [HE.out]; unfold clsL; rw [if_neg h1, if_pos h2]; rfl
    clear h1 h2 HN HNS HE
    go_enter Tryd.func17, Tryd.ntmps17
    go_wp2_with fail
    go_ret
    exact ⟨by rw [HL.out]; rfl, Below.refl _ _⟩
  have t1 : ((c.size : Int) == 1) = false := by simp; omega
  have t2 : ((c.size : Int) == 256) = false := by simp; omega
  by_cases h3 : 128 < c.size
  · have t3 : (128 : Int) < (c.size : Int) := by omega
    have HL : Hid (ct = ((⟨#[91, 94]⟩ : ByteArray) ++ strOfNums (runs nc 0)) ++ ⟨#[93]⟩) := by
      show ct = _
      rw [HE.out]; unfold clsL; rw [if_neg h1, if_neg h2, if_pos h3, strApp, strApp]; rfl
    have HRL : Hid ((strOfNums (runs nc 0)).size ≤ 2400) := by
      show (strOfNums (runs nc 0)).size ≤ 2400
      rw [strOfNums_size]
      have := runs_len nc _ 0 (Nat.le_refl _)
      have := HNS.out
      omega
    clear h1 h2 h3 HE
    go_enter Tryd.func17, Tryd.ntmps17
    go_wp2_with fail
    refine (HN.out _).mono ?_
    rintro e w1 ⟨rfl, hb⟩
    have B1 : Hid (Below w.heap.size w w1) := hb
    clear hb
    go_wp2_with fail
    refine (l04Runs_any nc w1 HNS.out).mono ?_
    rintro e w2 ⟨rfl, hb⟩
    have B2 : Hid (Below w.heap.size w w2) := B1.out.trans (hb.mono B1.out.size)
    clear hb
    have hz := HRL.out
    generalize strOfNums (runs nc 0) = x at *
    have hz2 : ((⟨#[91, 94]⟩ : ByteArray) ++ x).size = 2 + x.size := ByteArray.size_append
    go_wp2_with fail
    go_ret
    exact ⟨by rw [HL.out]; rfl, B2.out⟩
  · have t3 : ¬ (128 : Int) < (c.size : Int) := by omega
    have HL : Hid (ct = ((⟨#[91]⟩ : ByteArray) ++ strOfNums (runs c 0)) ++ ⟨#[93]⟩) := by
      show ct = _
      rw [HE.out]; unfold clsL; rw [if_neg h1, if_neg h2, if_neg h3, strApp, strApp]; rfl
    have HRL : Hid ((strOfNums (runs c 0)).size ≤ 2400) := by
      show (strOfNums (runs c 0)).size ≤ 2400
      rw [strOfNums_size]
      have := runs_len c _ 0 (Nat.le_refl _)
      omega
    clear h1 h2 h3 HE HN HNS
    go_enter Tryd.func17, Tryd.ntmps17
    go_wp2_with fail
    refine (l04Runs_any c w h256).mono ?_
    rintro e w2 ⟨rfl, hb⟩
    have B2 : Hid (Below w.heap.size w w2) := hb
    clear hb
    have hz := HRL.out
    generalize strOfNums (runs c 0) = x at *
    have hz2 : ((⟨#[91]⟩ : ByteArray) ++ x).size = 1 + x.size := ByteArray.size_append
    go_wp2_with fail
    go_ret
    exact ⟨by rw [HL.out]; rfl, B2.out⟩
end Go.Proofs.YtkkijmbpcffadajDoor
