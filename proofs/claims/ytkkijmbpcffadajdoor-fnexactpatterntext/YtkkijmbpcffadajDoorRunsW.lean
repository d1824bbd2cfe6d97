/- What is proved here: the program's runEnd and putRuns write the runs of a class behind a row of bytes that the call owns; what lies below stays. -/
import Derived.Test.YtkkijmbpcffadajDoorPutByteW
import Derived.Test.YtkkijmbpcffadajDoorClassRightW
namespace Go.Proofs.YtkkijmbpcffadajDoor
open Go.RowKit

set_option maxRecDepth 100000 in
set_option maxHeartbeats 2000000 in
theorem runEnd_any (c : ByteArray) (i : Nat) (w : World) (hc : c.size ≤ 1000) (hi : i < c.size) :
    Calls Tryd.prog 59 #[.string c, .int .i64 (i : Int)] w fun e w' => e = .returned (.int .i64 (runE c (i + 1) : Nat)) ∧ Below w.heap.size w w' := by
  go_enter Tryd.func59, Tryd.ntmps59
  go_wp2
  go_loopw [5] (fun x wr => ∃ k : Nat, i + 1 ≤ k ∧ k ≤ c.size ∧ x = .int .i64 (k : Int) ∧ runE c k = runE c (i + 1) ∧ Below w.heap.size w wr) (fun x _ => c.size - (intOf x).toNat)
  case atStart => exact ⟨i + 1, Nat.le_refl _, hi, by go_num, rfl, Below.refl _ _⟩
  case round =>
    obtain ⟨k, hk1, hk2, rfl, hE, hbel⟩ := hrel
    have HB : Hid (Below w.heap.size w wr) := hbel
    have HE : Hid (runE c k = runE c (i + 1)) := hE
    clear hbel hE
    by_cases hlt : k < c.size
    · obtain ⟨j, hj⟩ : ∃ j, k = j + 1 := ⟨k - 1, by omega⟩
      have HJ : Hid (k = j + 1) := hj
      have hlt' : (k : Int) < (c.size : Int) := by omega
      have hlt2 : (j : Int) < (c.size : Int) := by omega
      have hlt3 : j < c.size := by omega
      have hj0 : (0 : Int) ≤ (j : Int) := by omega
      have hk0 : (0 : Int) ≤ (k : Int) := by omega
      have wj : IntKind.i64.wrap ((k : Int) - 1) = j := by rw [IntKind.wrap_i64]; omega
      have wj2 : IntKind.i64.wrap (j : Int) = j := by rw [IntKind.wrap_i64]; omega
      have wj3 : (k : Int) - 1 = (j : Int) := by omega
      have hw : IntKind.u8.wrap ((c[j].toNat : Int) + 1) = ((c[j].toNat : Int) + 1) % 256 := by rw [IntKind.wrap_u8]
      by_cases hq : c[k].toNat = (c[k - 1].toNat + 1) % 256
      · have HQ : Hid (runE c k = runE c (k + 1)) := runE_on hlt hq
        have hq' : ((c[k].toNat : Int) == ((c[j].toNat : Int) + 1) % 256) = true := by
          have e : k - 1 = j := by omega
          simp only [e] at hq
          simp; omega
        clear hj hq
        go_wp2
        go_quiet (fail)
        go_wp2
        go_roundw
        case rel => exact ⟨k + 1, by omega, by omega, by go_num, by rw [← HQ.out]; exact HE.out, below_drewC _ HB.out⟩
        case measure => simp [intOf]; omega
      · have HQ : Hid (runE c k = k) := runE_end hlt hq
        have hq' : ((c[k].toNat : Int) == ((c[j].toNat : Int) + 1) % 256) = false := by
          have e : k - 1 = j := by omega
          simp only [e] at hq
          simp; omega
        clear hj hq
        go_wp2
        go_quiet (fail)
        go_wp2
        go_ret
        exact ⟨by rw [← HE.out, HQ.out]; rfl, below_drewC _ HB.out⟩
    · have hge : ¬ (k : Int) < (c.size : Int) := by omega
      have HQ : Hid (runE c k = k) := runE_stop hlt
      go_wp2
      go_quiet (fail)
      go_wp2
      go_ret
      exact ⟨by rw [← HE.out, HQ.out]; rfl, below_drewC _ HB.out⟩
theorem one_run {c : ByteArray} {k e : Nat} (h : k < c.size) (he : e = k + 1) : oneRun c k e = byteL c[k].toNat := by
  unfold oneRun
  rw [get_of h, if_neg (by omega), if_neg (by omega)]
  simp
theorem two_run {c : ByteArray} {k e l : Nat} (h : k < c.size) (hl : l < c.size) (he : e = k + 2) (hle : l = e - 1) : oneRun c k e = byteL c[k].toNat ++ byteL c[l].toNat := by
  subst hle
  unfold oneRun
  rw [get_of h, get_of hl, if_neg (by omega), if_pos (by omega)]
  simp
theorem more_run {c : ByteArray} {k e l : Nat} (h : k < c.size) (hl : l < c.size) (he : k + 2 < e) (hle : l = e - 1) : oneRun c k e = (byteL c[k].toNat ++ [45]) ++ byteL c[l].toNat := by
  subst hle
  unfold oneRun
  rw [get_of h, get_of hl, if_pos he, if_pos (by omega)]

set_option maxRecDepth 100000 in
set_option maxHeartbeats 8000000 in
theorem putRuns_any (c : ByteArray) (w : World) (B : Nat) (v : Value) (M : List Int) (hc : c.size ≤ 256) (hB : B ≤ w.heap.size) (hl : M.length ≤ 100000) (hr : RowX w B v M) :
    Calls Tryd.prog 43 #[v, .string c] w fun e w' => ∃ v', e = .returned v' ∧ RowX w' B v' (M ++ runs c 0) ∧ Below B w w' := by
  have HR : Hid (RowX w B v M) := hr
  have HRL : Hid ((runs c 0).length ≤ 9 * (c.size - 0)) := runs_len c _ 0 (Nat.le_refl _)
  clear hr
  go_enter Tryd.func43, Tryd.ntmps43
  go_wp2
  go_loopw [0, 5] (fun u x wr => ∃ (k : Nat) (M1 : List Int), k ≤ c.size ∧ x = .int .i64 (k : Int) ∧ RowX wr B u M1 ∧ M1 ++ runs c k = M ++ runs c 0 ∧ Below B w wr ∧ B ≤ wr.heap.size) (fun _ x _ => c.size - (intOf x).toNat)
  case atStart => exact ⟨0, M, Nat.zero_le _, rfl, HR.out, rfl, Below.refl _ _, hB⟩
  case round =>
    obtain ⟨k, M1, hk, rfl, hrow, hM, hbel, hBr⟩ := hrel
    have HB : Hid (Below B w wr) := hbel
    have HW : Hid (RowX wr B u0 M1) := hrow
    have HM : Hid (M1 ++ runs c k = M ++ runs c 0) := hM
    have hM1 : M1.length ≤ 200000 := by
      have h1 := congrArg List.length hM
      rw [List.length_append, List.length_append] at h1
      have := HRL.out
      omega
    clear hbel hrow hM
    by_cases hlt : k < c.size
    · have hlt' : (k : Int) < (c.size : Int) := by omega
      have hk0 : (0 : Int) ≤ (k : Int) := by omega
      have HS : Hid (runs c k = oneRun c k (runE c (k + 1)) ++ runs c (runE c (k + 1))) := runs_some hlt
      have hg := run_gt c k
      have hle := runE_le c _ (k + 1) (Nat.le_refl _) hlt
      have HE : Hid (∀ W, Calls Tryd.prog 59 #[.string c, .int .i64 (k : Int)] W fun e w' => e = .returned (.int .i64 (runE c (k + 1) : Nat)) ∧ Below W.heap.size W w') := fun W => runEnd_any c k W (by omega) hlt
      generalize runE c (k + 1) = e at *
      obtain ⟨l, hl2⟩ : ∃ l, l = e - 1 := ⟨_, rfl⟩
      have hll : l < c.size := by omega
      have hll' : (l : Int) < (c.size : Int) := by omega
      have hl0 : (0 : Int) ≤ (l : Int) := by omega
      have hel : (e : Int) - 1 = (l : Int) := by omega
      have HL2 : Hid (l = e - 1) := hl2
      have HLE : Hid (l + 1 = e) := by show l + 1 = e; omega
      clear hl2
      have hb1 : Hid (c[k].toNat < 256) := c[k].toNat_lt
      have hb2 : Hid (c[l].toNat < 256) := c[l].toNat_lt
      go_wp2_with fail
      refine (HE.out _).mono ?_
      rintro e1 w1 ⟨rfl, hb⟩
      have B1 : Hid (Below B w w1) := HB.out.trans (hb.mono hBr)
      have R1 : Hid (RowX w1 B u0 M1) := HW.out.kept hb
      have hB1 : B ≤ w1.heap.size := Nat.le_trans hBr hb.size
      clear hb
      go_wp2_with fail
      refine (putByte_any c[k].toNat w1 B u0 M1 hb1.out hB1 (by omega) R1.out).mono ?_
      rintro e1 w2 ⟨v2, rfl, hrow2, hb⟩
      have B2 : Hid (Below B w w2) := B1.out.trans hb
      have R2 : Hid (Row8 w2 B v2 (M1 ++ byteL c[k].toNat)) := hrow2
      have hB2 : B ≤ w2.heap.size := Nat.le_trans hB1 hb.size
      have hL2 : Hid ((byteL c[k].toNat).length ≤ 4) := (byteL_len c[k].toNat).2
      clear hb R1 B1 HW HB hrow2
      by_cases h1 : e = k + 1
      · have HO : Hid (oneRun c k e = byteL c[k].toNat) := one_run hlt h1
        have t1 : ¬ (k : Int) + 1 < (l : Int) := by have := HLE.out; omega
        have t2 : ¬ (k : Int) < (l : Int) := by have := HLE.out; omega
        clear h1
        go_wp2_with fail
        refine (HE.out _).mono ?_
        rintro e1 w3 ⟨rfl, hb⟩
        have B3 : Hid (Below B w w3) := B2.out.trans (hb.mono hB2)
        have R3 : Hid (Row8 w3 B v2 (M1 ++ byteL c[k].toNat)) := R2.out.kept hb
        have hB3 : B ≤ w3.heap.size := Nat.le_trans hB2 hb.size
        clear hb
        go_wp2_with fail
        go_roundw
        case rel => exact ⟨e, _, by omega, rfl, R3.out.x, by rw [← HM.out, HS.out, HO.out, List.append_assoc], B3.out, hB3⟩
        case measure => simp [intOf]; omega
      · have t2 : (k : Int) < (l : Int) := by have := HLE.out; omega
        by_cases h2 : e = k + 2
        · have HO : Hid (oneRun c k e = byteL c[k].toNat ++ byteL c[l].toNat) := two_run hlt hll h2 HL2.out
          have t1 : ¬ (k : Int) + 1 < (l : Int) := by have := HLE.out; omega
          clear h1 h2
          go_wp2_with fail
          refine (putByte_any c[l].toNat w2 B v2 _ hb2.out hB2 (by rw [List.length_append]; have := hL2.out; omega) R2.out.x).mono ?_
          rintro e1 w3 ⟨v3, rfl, hrow3, hb⟩
          have B3 : Hid (Below B w w3) := B2.out.trans hb
          have R3 : Hid (Row8 w3 B v3 ((M1 ++ byteL c[k].toNat) ++ byteL c[l].toNat)) := hrow3
          have hB3 : B ≤ w3.heap.size := Nat.le_trans hB2 hb.size
          clear hb hrow3
          go_wp2_with fail
          refine (HE.out _).mono ?_
          rintro e1 w4 ⟨rfl, hb⟩
          have B4 : Hid (Below B w w4) := B3.out.trans (hb.mono hB3)
          have R4 : Hid (Row8 w4 B v3 ((M1 ++ byteL c[k].toNat) ++ byteL c[l].toNat)) := R3.out.kept hb
          have hB4 : B ≤ w4.heap.size := Nat.le_trans hB3 hb.size
          clear hb
          go_wp2_with fail
          go_roundw
          case rel => exact ⟨e, _, by omega, rfl, R4.out.x, by rw [← HM.out, HS.out, HO.out]; simp only [List.append_assoc], B4.out, hB4⟩
          case measure => simp [intOf]; omega
        · have HO : Hid (oneRun c k e = (byteL c[k].toNat ++ [45]) ++ byteL c[l].toNat) := more_run hlt hll (by have := HLE.out; omega) HL2.out
          have t1 : (k : Int) + 1 < (l : Int) := by have := HLE.out; omega
          clear h1 h2
          obtain ⟨M2, hM2⟩ : ∃ M2, M2 = M1 ++ byteL c[k].toNat := ⟨_, rfl⟩
          have HM2 : Hid (M2 = M1 ++ byteL c[k].toNat) := hM2
          have hM2l : M2.length ≤ 300000 := by rw [hM2, List.length_append]; have := hL2.out; omega
          have R2b : Hid (Row8 w2 B v2 M2) := by show Row8 w2 B v2 M2; rw [hM2]; exact R2.out
          have HBA : Hid (∀ o, Below B w2 (w2.alloc o)) := fun o => (Below.refl _ _).alloc hB2 _
          clear hM2
          go_wp2_with (at_builtin; refine wpList_app8 rfl (.tmp 27) (.tmp 28) rfl B v2 M2 [45] rfl (R2b.out.x.alloc _) ?c1 ⟨w2.heap.size, 0, none⟩ 1 rfl ?c2 ?c3 ?c4 ?_)
          case c1 => simp; omega
          case c2 => simp
          case c3 => exact new_cells w2 [45] _ _ rfl
          case c4 => simp; omega
          intro v3 w3 hrow3 hbel3
          have hb3 : Below B w2 w3 := (HBA.out _).trans hbel3
          have B3 : Hid (Below B w w3) := B2.out.trans hb3
          have R3 : Hid (Row8 w3 B v3 (M2 ++ [45])) := hrow3
          have hB3 : B ≤ w3.heap.size := Nat.le_trans hB2 hb3.size
          clear hrow3 hbel3 hb3
          go_wp2_with fail
          refine (putByte_any c[l].toNat w3 B v3 _ hb2.out hB3 (by rw [List.length_append]; simp; omega) R3.out.x).mono ?_
          rintro e1 w4 ⟨v4, rfl, hrow4, hb⟩
          have B4 : Hid (Below B w w4) := B3.out.trans hb
          have R4 : Hid (Row8 w4 B v4 ((M2 ++ [45]) ++ byteL c[l].toNat)) := hrow4
          have hB4 : B ≤ w4.heap.size := Nat.le_trans hB3 hb.size
          clear hb hrow4
          go_wp2_with fail
          refine (HE.out _).mono ?_
          rintro e1 w5 ⟨rfl, hb⟩
          have B5 : Hid (Below B w w5) := B4.out.trans (hb.mono hB4)
          have R5 : Hid (Row8 w5 B v4 ((M2 ++ [45]) ++ byteL c[l].toNat)) := R4.out.kept hb
          have hB5 : B ≤ w5.heap.size := Nat.le_trans hB4 hb.size
          clear hb
          go_wp2_with fail
          go_roundw
          case rel => exact ⟨e, _, by omega, rfl, R5.out.x, by rw [← HM.out, HS.out, HO.out, HM2.out]; simp only [List.append_assoc], B5.out, hB5⟩
          case measure => simp [intOf]; omega
    · have hge : ¬ (k : Int) < (c.size : Int) := by omega
      have HN : Hid (M1 = M ++ runs c 0) := by
        show M1 = M ++ runs c 0
        rw [← HM.out, runs_none hlt, List.append_nil]
      go_wp2_with fail
      go_ret
      exact ⟨u0, rfl, by rw [← HN.out]; exact HW.out, HB.out⟩
end Go.Proofs.YtkkijmbpcffadajDoor
