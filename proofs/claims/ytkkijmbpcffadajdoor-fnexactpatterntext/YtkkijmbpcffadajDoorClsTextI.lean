/- What is proved here: the program's ClassText hands back the text of a right class that is not empty, else nothing; nothing that was there turns. -/
import Derived.Test.YtkkijmbpcffadajDoorRunsW
import Derived.Test.YtkkijmbpcffadajDoorSetNotW
import Derived.Test.YtkkijmbpcffadajDoorImplCRightW
import Derived.Test.YtkkijmbpcffadajDoorClassAlg
import Derived.Test.YtkkijmbpcffadajDoorPatNone
import Derived.Lib.SlBytesConst
namespace Go.Proofs.YtkkijmbpcffadajDoor
open Go.RowKit

/-- What is not in a class. -/
def notC (c : ByteArray) : ByteArray := classT (fun i => !hasByte c i)
/-- The text of a class. -/
def clsT (c : ByteArray) : ByteArray := strOfNums (clsL c (notC c))
open Classical in
theorem implRC_yes (t : ByteArray) (w : World) (hs : t.size ≤ maxLen) (h : RightC t) :
    Calls Tryd.prog 41 #[.string t] w fun e w' => e = .returned (.bool true) ∧ Below w.heap.size w w' :=
  (implRightC_any t w hs).mono fun _ _ h2 => ⟨by rw [h2.1, decide_eq_true h], h2.2⟩
open Classical in
theorem implRC_no (t : ByteArray) (w : World) (hs : t.size ≤ maxLen) (h : ¬ RightC t) :
    Calls Tryd.prog 41 #[.string t] w fun e w' => e = .returned (.bool false) ∧ Below w.heap.size w w' :=
  (implRightC_any t w hs).mono fun _ _ h2 => ⟨by rw [h2.1, decide_eq_false h], h2.2⟩

theorem implCText_no (c : ByteArray) (w : World) (hc : c.size ≤ maxLen) (h : ¬ (RightC c ∧ 0 < c.size)) :
    Calls Tryd.prog 21 #[.string c] w fun e w' => e = .returned (.string ⟨#[]⟩) ∧ Below w.heap.size w w' := by
  by_cases h0 : 0 < c.size
  · obtain ⟨hq1, hq2⟩ := some_ofC h0
    have hn : ¬ RightC c := fun h2 => h ⟨h2, h0⟩
    have HP : Hid (∀ W, Calls Tryd.prog 41 #[.string c] W fun e w' => e = .returned (.bool false) ∧ Below W.heap.size W w') := fun W => implRC_no c W hc hn
    clear h hn hc
    go_enter Tryd.func21, Tryd.ntmps21
    go_wp2_with fail
    refine (HP.out _).mono ?_
    rintro e w1 ⟨rfl, hb⟩
    have B1 : Hid (Below w.heap.size w w1) := hb
    clear hb
    go_wp2_with fail
    go_ret
    exact ⟨rfl, B1.out⟩
  · obtain ⟨hq1, hq2⟩ := none_ofC h0
    clear h hc
    go_enter Tryd.func21, Tryd.ntmps21
    go_wp2_with fail
    go_ret
    exact ⟨rfl, Below.refl _ _⟩

set_option maxRecDepth 100000 in
set_option maxHeartbeats 4000000 in
theorem implCText_yes (c : ByteArray) (w : World) (h : RightC c) (h0 : 0 < c.size) (hT : Tab64 w) (hp0 : 1 < w.heap.size) :
    Calls Tryd.prog 21 #[.string c] w fun e w' => e = .returned (.string (clsT c)) ∧ Below w.heap.size w w' := by
  obtain ⟨hq1, hq2⟩ := some_ofC h0
  have h256 := right_size h
  have hc : c.size ≤ maxLen := by unfold maxLen; omega
  have HT : Hid (Tab64 w) := hT
  have HP : Hid (∀ W, Calls Tryd.prog 41 #[.string c] W fun e w' => e = .returned (.bool true) ∧ Below W.heap.size W w') := fun W => implRC_yes c W hc h
  have HN : Hid (∀ W, Tab64 W → 1 < W.heap.size → Calls Tryd.prog 44 #[.string c] W fun e w' => e = .returned (.string (notC c)) ∧ Below W.heap.size W w') := fun W h1 h2 => implCNot_yes c W hc h h1 h2
  have HNS : Hid ((notC c).size ≤ 256) := classT_size _
  have HE : Hid (clsT c = strOfNums (clsL c (notC c))) := rfl
  generalize notC c = nc at *
  generalize clsT c = ct at *
  clear h hc hT
  go_enter Tryd.func21, Tryd.ntmps21
  go_wp2_with fail
  refine (HP.out _).mono ?_
  rintro e w1 ⟨rfl, hb⟩
  have B1 : Hid (Below w.heap.size w w1) := hb
  have T1 : Hid (Tab64 w1) := HT.out.kept hb hp0
  have hw1 := hb.size
  clear hb HP HT
  by_cases h1 : c.size = 1
  · have t1 : ((c.size : Int) == 1) = true := by simp; omega
    have HL : Hid (ct = strOfNums (byteL c[0].toNat)) := by show ct = _; rw [HE.out]; unfold clsL; rw [if_pos h1, get_of h0]
    have hb0 : Hid (c[0].toNat < 256) := c[0].toNat_lt
    clear h1 HN HNS HE
    go_wp2_with fail
    refine (putByte_any c[0].toNat w1 w1.heap.size _ [] hb0.out (Nat.le_refl _) (by simp) (Row8.none _ _).x).mono ?_
    rintro e w2 ⟨v2, rfl, hrow, hb⟩
    have B2 : Hid (Below w.heap.size w w2) := B1.out.trans (hb.mono hw1)
    have hcv := convRow hrow
    rw [List.nil_append, ← HL.out] at hcv
    clear hrow hb
    go_wp2_with fail
    go_ret
    exact ⟨rfl, B2.out⟩
  by_cases h2 : c.size = 256
  · have t1 : ((c.size : Int) == 1) = false := by simp; omega
    have t2 : ((c.size : Int) == 256) = true := by simp; omega
    have HL : Hid (ct = ⟨#[46]⟩) := by show ct = _; rw [HE.out]; unfold clsL; rw [if_neg h1, if_pos h2]; rfl
    clear h1 h2 HN HNS HE
    go_wp2_with fail
    go_ret
    exact ⟨by rw [HL.out]; rfl, B1.out⟩
  have t1 : ((c.size : Int) == 1) = false := by simp; omega
  have t2 : ((c.size : Int) == 256) = false := by simp; omega
  by_cases h3 : 128 < c.size
  · have t3 : (128 : Int) < (c.size : Int) := by omega
    have HL : Hid (ct = strOfNums ([91, 94] ++ runs nc 0 ++ [93])) := by show ct = _; rw [HE.out]; unfold clsL; rw [if_neg h1, if_neg h2, if_pos h3]
    have HRL : Hid ((runs nc 0).length ≤ 9 * (nc.size - 0)) := runs_len nc _ 0 (Nat.le_refl _)
    have kc := Lib.run_convert_bytes_const (P := Tryd.prog) w1 43 5 #[.int .u8 91, .int .u8 94] 2 2 Tryd.underlying43 Tryd.underlying5
    clear h1 h2 h3 HE
    have hbb : Below w1.heap.size w1 (w1.alloc (.cells #[.int .u8 91, .int .u8 94] 5 (2, 3))) := (Below.refl _ _).alloc (Nat.le_refl _) _
    have BA : Hid (Below w.heap.size w (w1.alloc (.cells #[.int .u8 91, .int .u8 94] 5 (2, 3)))) := B1.out.trans (hbb.mono hw1)
    have TA : Hid (Tab64 (w1.alloc (.cells #[.int .u8 91, .int .u8 94] 5 (2, 3)))) := T1.out.kept hbb (by omega)
    have XA : Hid (RowX (w1.alloc (.cells #[.int .u8 91, .int .u8 94] 5 (2, 3))) w1.heap.size (.slice (some ⟨w1.heap.size, 0, none⟩) 2 2) [91, 94]) := by
      refine Or.inr ⟨w1.heap.size, rfl, Nat.le_refl _, by simp, fun j u hu => ?_⟩
      rw [World.cell?_alloc_mark, ← hu]
      simp
    have hsz : (w1.alloc (.cells #[.int .u8 91, .int .u8 94] 5 (2, 3))).heap.size = w1.heap.size + 1 := by simp
    clear hbb
    go_wp2_with fail
    generalize w1.alloc (.cells #[.int .u8 91, .int .u8 94] 5 (2, 3)) = wa at *
    obtain ⟨B, hB⟩ : ∃ B, B = w1.heap.size := ⟨_, rfl⟩
    rw [← hB] at XA hsz ⊢
    have hwB : w.heap.size ≤ B := by omega
    have HWB : Hid (w.heap.size ≤ B) := hwB
    have hBa : B ≤ wa.heap.size := by omega
    clear hB kc hwB
    refine (HN.out _ TA.out (by have := HWB.out; omega)).mono ?_
    rintro e w2 ⟨rfl, hb⟩
    have B2 : Hid (Below w.heap.size w w2) := BA.out.trans (hb.mono BA.out.size)
    have X2 : Hid (RowX w2 B (.slice (some ⟨B, 0, none⟩) 2 2) [91, 94]) := XA.out.kept hb
    have hB2 : B ≤ w2.heap.size := Nat.le_trans hBa hb.size
    clear hb
    go_wp2_with fail
    refine (putRuns_any nc w2 B _ _ HNS.out hB2 (by simp) X2.out).mono ?_
    rintro e w3 ⟨v3, rfl, hrow, hb⟩
    have B3 : Hid (Below w.heap.size w w3) := B2.out.trans (hb.mono HWB.out)
    have X3 : Hid (RowX w3 B v3 ([91, 94] ++ runs nc 0)) := hrow
    have hB3 : B ≤ w3.heap.size := Nat.le_trans hB2 hb.size
    have HBA : Hid (∀ o, Below B w3 (w3.alloc o)) := fun o => (Below.refl _ _).alloc hB3 _
    clear hrow hb
    go_wp2_with (at_builtin; refine wpList_app8 rfl (.tmp 31) (.tmp 32) rfl B v3 ([91, 94] ++ runs nc 0) [93] rfl (X3.out.alloc _) ?c1 ⟨w3.heap.size, 0, none⟩ 1 rfl ?c2 ?c3 ?c4 ?_)
    case c1 => simp; omega
    case c2 => simp
    case c3 => exact new_cells w3 [93] _ _ rfl
    case c4 => simp; have := HRL.out; have := HNS.out; omega
    intro v4 w4 hrow4 hbel4
    have B4 : Hid (Below w.heap.size w w4) := B3.out.trans (((HBA.out _).trans hbel4).mono HWB.out)
    have hcv : (convert 43 9 v4).run Tryd.prog w4 = .ok (.string ct) w4 := by
      rw [convRow hrow4]
      have := HL.out
      simp at this ⊢
      exact this.symm
    clear hrow4 hbel4
    go_wp2_with fail
    go_ret
    exact ⟨rfl, B4.out⟩
  · have t3 : ¬ (128 : Int) < (c.size : Int) := by omega
    have HL : Hid (ct = strOfNums ([91] ++ runs c 0 ++ [93])) := by show ct = _; rw [HE.out]; unfold clsL; rw [if_neg h1, if_neg h2, if_neg h3]
    have HRL : Hid ((runs c 0).length ≤ 9 * (c.size - 0)) := runs_len c _ 0 (Nat.le_refl _)
    have kc := Lib.run_convert_bytes_const (P := Tryd.prog) w1 43 5 #[.int .u8 91] 1 1 Tryd.underlying43 Tryd.underlying5
    clear h1 h2 h3 HE
    have hbb : Below w1.heap.size w1 (w1.alloc (.cells #[.int .u8 91] 5 (1, 2))) := (Below.refl _ _).alloc (Nat.le_refl _) _
    have BA : Hid (Below w.heap.size w (w1.alloc (.cells #[.int .u8 91] 5 (1, 2)))) := B1.out.trans (hbb.mono hw1)
    have TA : Hid (Tab64 (w1.alloc (.cells #[.int .u8 91] 5 (1, 2)))) := T1.out.kept hbb (by omega)
    have XA : Hid (RowX (w1.alloc (.cells #[.int .u8 91] 5 (1, 2))) w1.heap.size (.slice (some ⟨w1.heap.size, 0, none⟩) 1 1) [91]) := by
      refine Or.inr ⟨w1.heap.size, rfl, Nat.le_refl _, by simp, fun j u hu => ?_⟩
      rw [World.cell?_alloc_mark, ← hu]
      simp
    have hsz : (w1.alloc (.cells #[.int .u8 91] 5 (1, 2))).heap.size = w1.heap.size + 1 := by simp
    clear hbb
    go_wp2_with fail
    generalize w1.alloc (.cells #[.int .u8 91] 5 (1, 2)) = wa at *
    obtain ⟨B, hB⟩ : ∃ B, B = w1.heap.size := ⟨_, rfl⟩
    rw [← hB] at XA hsz ⊢
    have hwB : w.heap.size ≤ B := by omega
    have HWB : Hid (w.heap.size ≤ B) := hwB
    have hBa : B ≤ wa.heap.size := by omega
    clear hB kc hwB
    refine (putRuns_any c wa B _ _ h256 hBa (by simp) XA.out).mono ?_
    rintro e w3 ⟨v3, rfl, hrow, hb⟩
    have B3 : Hid (Below w.heap.size w w3) := BA.out.trans (hb.mono HWB.out)
    have X3 : Hid (RowX w3 B v3 ([91] ++ runs c 0)) := hrow
    have hB3 : B ≤ w3.heap.size := Nat.le_trans hBa hb.size
    have HBA : Hid (∀ o, Below B w3 (w3.alloc o)) := fun o => (Below.refl _ _).alloc hB3 _
    clear hrow hb
    go_wp2_with (at_builtin; refine wpList_app8 rfl (.tmp 38) (.tmp 39) rfl B v3 ([91] ++ runs c 0) [93] rfl (X3.out.alloc _) ?c1 ⟨w3.heap.size, 0, none⟩ 1 rfl ?c2 ?c3 ?c4 ?_)
    case c1 => simp; omega
    case c2 => simp
    case c3 => exact new_cells w3 [93] _ _ rfl
    case c4 => simp; have := HRL.out; omega
    intro v4 w4 hrow4 hbel4
    have B4 : Hid (Below w.heap.size w w4) := B3.out.trans (((HBA.out _).trans hbel4).mono HWB.out)
    have hcv : (convert 43 9 v4).run Tryd.prog w4 = .ok (.string ct) w4 := by
      rw [convRow hrow4]
      have := HL.out
      simp at this ⊢
      exact this.symm
    clear hrow4 hbel4
    go_wp2_with fail
    go_ret
    exact ⟨rfl, B4.out⟩
end Go.Proofs.YtkkijmbpcffadajDoor
