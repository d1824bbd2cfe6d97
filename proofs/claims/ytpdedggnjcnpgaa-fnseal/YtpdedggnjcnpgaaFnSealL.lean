/- What is proved here: the law FnSeal walks to true at every two slices of bytes; nothing that was there turns. -/
import Derived.Test.YtpdedggnjcnpgaaToBytesW
import Derived.Test.YtpdedggnjcnpgaaSealM
import Derived.Deep.RegionWith
namespace Go.Proofs.Ytpdedggnjcnpgaa
open Go.RowKit Go.Lib

theorem keptBelow {w w' : World} {sa : Option Addr} {len : Nat} (h : Bytes8 w w.heap.size sa len) (hb : Below w.heap.size w w') : Bytes8 w' w.heap.size sa len :=
  h.kept (row := none) ⟨hb.os, hb.tape, hb.output, hb.size, fun k hk _ => hb.block k hk⟩ (fun k hk => by cases hk)
theorem Bytes8.up {w : World} {B B' : Nat} {sa : Option Addr} {len : Nat} (h : Bytes8 w B sa len) (hB : B ≤ B') : Bytes8 w B' sa len := by
  rcases h with h | ⟨bb, off, zs, h1, h2, h3⟩
  · exact Or.inl h
  · exact Or.inr ⟨bb, off, zs, h1, Nat.lt_of_lt_of_le h2 hB, h3⟩

theorem crcMore_both (y : Int) (u : ByteArray) (hu : u.size ≤ 8000) : ∃ z, (∀ w, Calls Try.prog 10 #[.int .i64 y, .string u] w fun e w' => e = .returned (.int .i64 z) ∧ w' = w) ∧ (∀ w, Calls Try.prog 11 #[.int .i64 y, .string u] w fun e w' => e = .returned (.int .i64 z) ∧ w' = w) := by
  have hm : u.size ≤ maxLen := by unfold maxLen; omega
  by_cases h : 0 ≤ y ∧ y ≤ 4294967295
  · exact ⟨_, fun w => implCrcMore_yes y u w hu h.1 h.2, fun w => specCrcMore_yes y u w hu h.1 h.2⟩
  · have h' : 8000 < u.size ∨ y < 0 ∨ 4294967295 < y := by omega
    exact ⟨0, fun w => implCrcMore_no y u w hm h', fun w => specCrcMore_no y u w hm h'⟩
theorem xor_turned (x : UInt8) (r : Int) (h0 : 0 ≤ r) (h1 : r < 255) : 0 ≤ bits .xor .u8 (x.toNat : Int) (IntKind.u8.wrap (IntKind.i64.wrap (1 + r))) ∧ bits .xor .u8 (x.toNat : Int) (IntKind.u8.wrap (IntKind.i64.wrap (1 + r))) < 256 ∧ UInt8.ofNat (bits .xor .u8 (x.toNat : Int) (IntKind.u8.wrap (IntKind.i64.wrap (1 + r)))).toNat ≠ x := by
  obtain ⟨k, rfl⟩ := Int.eq_ofNat_of_zero_le h0
  have hx := x.toNat_lt
  have e : IntKind.u8.wrap (IntKind.i64.wrap (1 + (k : Int))) = ((1 + k : Nat) : Int) := by rw [IntKind.wrap_i64, IntKind.wrap_u8]; omega
  have hlt : x.toNat ^^^ (1 + k) < 256 := Nat.xor_lt_two_pow (n := 8) (by omega) (by omega)
  rw [e, u8_xor_nat _ _ (by omega) (by omega)]
  refine ⟨by omega, by omega, fun h => ?_⟩
  have h2 := congrArg UInt8.toNat h
  simp only [UInt8.toNat_ofNat', Int.toNat_natCast] at h2
  rw [Nat.mod_eq_of_lt hlt] at h2
  have h3 := xor_left x.toNat (1 + k) 0 (by rw [h2, Nat.xor_zero])
  omega

set_option maxRecDepth 100000 in
set_option maxHeartbeats 4000000 in
theorem law_fnSeal (s1 : Option Addr) (l1 c1 : Nat) (s2 : Option Addr) (l2 c2 : Nat) (w : World) (hm1 : l1 ≤ maxLen) (hm2 : l2 ≤ maxLen) (hy1 : Bytes8 w w.heap.size s1 l1) (hy2 : Bytes8 w w.heap.size s2 l2) :
    Calls Try.prog 3 #[.slice s1 l1 c1, .slice s2 l2 c2] w fun e w' => e = .returned (.bool true) ∧ Below w.heap.size w w' := by
  unfold maxLen at hm1 hm2
  have HY1 : Hid (Bytes8 w w.heap.size s1 l1) := hy1
  have HY2 : Hid (Bytes8 w w.heap.size s2 l2) := hy2
  clear hy1 hy2
  by_cases hbig1 : 1048576 < (l1 : Int)
  · go_enter Try.func3, Try.ntmps3
    go_wp2
    go_ret
    exact ⟨rfl, Below.refl _ _⟩
  by_cases hbig2 : 1048576 < (l2 : Int)
  · go_enter Try.func3, Try.ntmps3
    go_wp2
    go_ret
    exact ⟨rfl, Below.refl _ _⟩
  have hl1 : l1 ≤ 1048576 := by omega
  have hl2 : l2 ≤ 1048576 := by omega
  go_enter Try.func3, Try.ntmps3
  go_wp2_with fail
  refine (drawSeal_any w s1 l1 c1 hl1 HY1.out).mono ?_
  rintro e w1 ⟨⟨t, rfl, ht⟩, hb1⟩
  have HB1 : Hid (Below w.heap.size w w1) := hb1
  clear hb1
  by_cases htb : t.size ≤ 7996
  · go_wp2_with fail
    refine (implSeal_yes t w1 htb).mono ?_
    rintro e w2 ⟨rfl, hb2⟩
    have HB2 : Hid (Below w.heap.size w w2) := HB1.out.trans (hb2.mono HB1.out.size)
    clear hb2 HB1
    go_wp2_with fail
    refine (specSeal_yes t w2 htb).mono ?_
    rintro e w3 ⟨rfl, hb3⟩
    have HB3 : Hid (Below w.heap.size w w3) := HB2.out.trans (hb3.mono HB2.out.size)
    clear hb3 HB2
    have hss := seal_size t
    have hse : (sealOf t).toList.isEmpty = false := by
      rw [← Bool.not_eq_true, List.isEmpty_iff]
      intro h
      have := len_toList (sealOf t)
      rw [h] at this
      simp at this
      omega
    obtain ⟨w4, cp, hcv, hb4, hz4, hrow4⟩ := toBytes w3 (sealOf t)
    have HB4 : Hid (Below w.heap.size w w4) := HB3.out.trans (hb4.mono HB3.out.size)
    have HR4 : Hid (RowOf w4 w3.heap.size (sealOf t).data.toList) := hrow4
    have HZ3 : Hid (w.heap.size ≤ w3.heap.size) := HB3.out.size
    clear hb4 hrow4 HB3
    have HSS : Hid ((sealOf t).size = t.size + 4) := hss
    have hs1 : 4 ≤ (sealOf t).size := by omega
    have hs2 : (sealOf t).size ≤ 8000 := by omega
    clear hss
    have HY4 : Hid (Bytes8 w4 w.heap.size s2 l2) := keptBelow HY2.out HB4.out
    go_wp2_with fail
    refine (lwAt_any w4 w.heap.size s2 l2 c2 0 (((sealOf t).size : Nat) : Int) (by decide) (by decide) (by omega) hl2 HY4.out).mono ?_
    rintro e w5 ⟨⟨r, rfl, hr0, hr1⟩, hw5⟩
    subst hw5
    have hr2 : r < (((sealOf t).size : Nat) : Int) := hr1 (by omega)
    clear hr1
    obtain ⟨p, rfl⟩ := Int.eq_ofNat_of_zero_le hr0
    have hp : p < (sealOf t).data.toList.length := by rw [← size_eq]; omega
    have cz := HR4.out.1 p hp
    have fz := HR4.out.2 p hp
    obtain ⟨x, hx⟩ : ∃ x : UInt8, (sealOf t).data.toList.getD p 0 = x := ⟨_, rfl⟩
    rw [hx] at cz
    have HX : Hid ((sealOf t).data.toList.getD p 0 = x) := hx
    have hx0 : (0 : Int) ≤ (x.toNat : Int) := by omega
    have hx1 : (x.toNat : Int) < 256 := by have := x.toNat_lt; omega
    have HP : Hid (p < (sealOf t).data.toList.length) := hp
    clear hx hp hr0
    go_upto_region 10 with fail
    go_cut [] (fun wx => ∃ d : UInt8, d ≠ x ∧ RowOf wx w3.heap.size ((sealOf t).data.toList.set p d) ∧ Below w.heap.size w wx ∧ w3.heap.size < wx.heap.size)
    case first =>
      go_region_with (go_at_call 7; refine (lwAt_any _ w.heap.size s2 l2 c2 1 255 (by decide) (by decide) (by decide) hl2 (by exact HY4.out)).mono ?_; rintro e w' ⟨⟨r, rfl, hr0, hr1⟩, rfl⟩)
      all_goals
        have hr3 : r < 255 := hr1 (by decide)
        have hv := xor_turned x r hr0 hr3
        go_wp2_with fail
        go_meet
        case rel => exact ⟨_, hv.2.2, (HR4.out.set HP.out hv.1 hv.2.1), (HB4.out.setCell (p := ⟨w3.heap.size, p, none⟩) HZ3.out _).drew, by simpa [World.setCell] using hz4⟩
    case rest =>
      obtain ⟨d, hd, hrow, hbel, hz5⟩ := hcut
      have HR5 : Hid (RowOf wc w3.heap.size ((sealOf t).data.toList.set p d)) := hrow
      have HB5 : Hid (Below w.heap.size w wc) := hbel
      have HD : Hid (d ≠ x) := hd
      clear hrow hbel hd cz fz HR4 HB4 HY4 hcv hz4
      go_wp2_with fail
      have hgood : sealOf ((sealOf t).extract 0 ((sealOf t).size - 4)) = sealOf t := by rw [seal_body]
      refine (implUnseal_good (sealOf t) wc hs1 hs2 hgood).mono ?_
      clear hgood
      rw [seal_body]
      rintro e w6 ⟨rfl, hb6⟩
      have HB6 : Hid (Below w.heap.size w w6) := HB5.out.trans (hb6.mono HB5.out.size)
      have HR6 : Hid (RowOf w6 w3.heap.size ((sealOf t).data.toList.set p d)) := HR5.out.kept hb6 hz5
      clear hb6 HR5 HB5
      unfold unsealed
      obtain ⟨s', hs'⟩ : ∃ s' : ByteArray, s' = ⟨((sealOf t).data.toList.set p d).toArray⟩ := ⟨_, rfl⟩
      have hcv2 := ofBytes w6 w3.heap.size (sealOf t).size cp ((sealOf t).data.toList.set p d) (by rw [List.length_set, size_eq]) HR6.out
      rw [← hs'] at hcv2
      have hsl : s'.toList = (sealOf t).toList.set p d := by rw [hs', ByteArray.toList_eq, ByteArray.toList_eq]
      have hsz : s'.size = (sealOf t).size := by rw [← len_toList, hsl, List.length_set, len_toList]
      have hbad : ¬ sealOf (s'.extract 0 (s'.size - 4)) = s' := by
        refine turned_bad t s' p d (by rw [ByteArray.toList_eq]; exact HP.out) ?_ hsl
        have hx := HX.out
        rw [List.getD, List.getElem?_eq_getElem HP.out] at hx
        have hx' : (sealOf t).data.toList[p]'HP.out = x := hx
        simp only [ByteArray.toList_eq]
        rw [hx']
        exact HD.out
      have HBAD : Hid (¬ sealOf (s'.extract 0 (s'.size - 4)) = s') := hbad
      have hs3 : 4 ≤ s'.size := by omega
      have hs4 : s'.size ≤ 8000 := by omega
      clear hbad hsl hsz hs' HR6
      go_wp2_with fail
      refine (implUnseal_bad s' w6 hs3 hs4 HBAD.out).mono ?_
      rintro e w7 ⟨rfl, hb7⟩
      have HB7 : Hid (Below w.heap.size w w7) := HB6.out.trans (hb7.mono HB6.out.size)
      clear hb7 hcv2 HBAD HB6
      unfold unsealed
      have hfld : ∀ w : World, (Instr.field 27 (.agg #[.string ⟨#[]⟩, .int .i64 0, .int .i64 5]) 2).run Try.prog w = .ok (.int .i64 5) w := fun _ => by kernel_rfl
      have HYt : Hid (Bytes8 w7 w7.heap.size s2 l2) := (keptBelow HY2.out HB7.out).up HB7.out.size
      go_wp2_with fail
      refine (drawCrcMore_any w7 s2 l2 c2 hl2 HYt.out).mono ?_
      clear HYt
      rintro e wu ⟨⟨y, u, rfl, hu⟩, hbu⟩
      have HBu : Hid (Below w.heap.size w wu) := HB7.out.trans (hbu.mono HB7.out.size)
      clear hbu
      by_cases hbig : 8000 < t.size + u.size
      · have hbig' : (8000 : Int) < (t.size : Int) + (u.size : Int) := by omega
        go_wp2
        go_ret
        exact ⟨rfl, HBu.out⟩
      · have hbig' : ¬ (8000 : Int) < (t.size : Int) + (u.size : Int) := by omega
        have ht8 : t.size ≤ 8000 := by omega
        have hu8 : u.size ≤ 8000 := by omega
        have htu : (t ++ u).size ≤ 8000 := by
          have := len_toList (t ++ u)
          rw [toList_app, List.length_append, len_toList, len_toList] at this
          omega
        have HTU : Hid ((t ++ u).size ≤ 8000) := htu
        clear htu
        have hgo := crc_goes_on t u
        have hrg := crcOf_range t
        obtain ⟨z, h1, h2⟩ := crcMore_both y u hu8
        have H1 : Hid (∀ w, Calls Try.prog 10 #[.int .i64 y, .string u] w fun e w' => e = .returned (.int .i64 z) ∧ w' = w) := h1
        have H2 : Hid (∀ w, Calls Try.prog 11 #[.int .i64 y, .string u] w fun e w' => e = .returned (.int .i64 z) ∧ w' = w) := h2
        have HGO : Hid (crcTurn (crcTo u (crcTurn (crcOf t)) u.size) = crcOf (t ++ u)) := hgo
        have HRG : Hid (0 ≤ crcOf t ∧ crcOf t ≤ 4294967295) := hrg
        clear hgo hrg h1 h2
        go_wp2_with fail
        refine (H1.out _).mono ?_
        rintro e wv ⟨rfl, hwv⟩
        subst hwv
        go_wp2_with fail
        refine (H2.out _).mono ?_
        rintro e wv ⟨rfl, hwv⟩
        subst hwv
        go_wp2_with fail
        refine (implCrc0 t _ ht8).mono ?_
        rintro e wv ⟨rfl, hwv⟩
        subst hwv
        go_wp2_with fail
        refine (implCrcMore_yes (crcOf t) u _ hu8 HRG.out.1 HRG.out.2).mono ?_
        rintro e wv ⟨rfl, hwv⟩
        subst hwv
        rw [HGO.out]
        go_wp2_with fail
        refine (implCrc0 (t ++ u) _ HTU.out).mono ?_
        rintro e wv ⟨rfl, hwv⟩
        subst hwv
        go_wp2
        go_ret
        exact ⟨rfl, HBu.out⟩
  · have htb' : 7996 < t.size := by omega
    have htm : t.size ≤ maxLen := by unfold maxLen; omega
    go_wp2_with fail
    refine (implSeal_no t w1 htm htb').mono ?_
    rintro e w2 ⟨rfl, hw2⟩
    subst hw2
    go_wp2_with fail
    refine (specSeal_no t _ htm htb').mono ?_
    rintro e w3 ⟨rfl, hw3⟩
    subst hw3
    have HYt : Hid (Bytes8 w3 w3.heap.size s2 l2) := (keptBelow HY2.out HB1.out).up HB1.out.size
    go_wp2_with fail
    refine (drawCrcMore_any w3 s2 l2 c2 hl2 HYt.out).mono ?_
    clear HYt
    rintro e wu ⟨⟨y, u, rfl, hu⟩, hbu⟩
    have HBu : Hid (Below w.heap.size w wu) := HB1.out.trans (hbu.mono HB1.out.size)
    clear hbu
    by_cases hbig : 8000 < t.size + u.size
    · have hbig' : (8000 : Int) < (t.size : Int) + (u.size : Int) := by omega
      go_wp2
      go_ret
      exact ⟨rfl, HBu.out⟩
    · have hbig' : ¬ (8000 : Int) < (t.size : Int) + (u.size : Int) := by omega
      have ht8 : t.size ≤ 8000 := by omega
      have hu8 : u.size ≤ 8000 := by omega
      have htu : (t ++ u).size ≤ 8000 := by
        have := len_toList (t ++ u)
        rw [toList_app, List.length_append, len_toList, len_toList] at this
        omega
      have HTU : Hid ((t ++ u).size ≤ 8000) := htu
      clear htu
      have hgo := crc_goes_on t u
      have hrg := crcOf_range t
      obtain ⟨z, h1, h2⟩ := crcMore_both y u hu8
      have H1 : Hid (∀ w, Calls Try.prog 10 #[.int .i64 y, .string u] w fun e w' => e = .returned (.int .i64 z) ∧ w' = w) := h1
      have H2 : Hid (∀ w, Calls Try.prog 11 #[.int .i64 y, .string u] w fun e w' => e = .returned (.int .i64 z) ∧ w' = w) := h2
      have HGO : Hid (crcTurn (crcTo u (crcTurn (crcOf t)) u.size) = crcOf (t ++ u)) := hgo
      have HRG : Hid (0 ≤ crcOf t ∧ crcOf t ≤ 4294967295) := hrg
      clear hgo hrg h1 h2
      go_wp2_with fail
      refine (H1.out _).mono ?_
      rintro e wv ⟨rfl, hwv⟩
      subst hwv
      go_wp2_with fail
      refine (H2.out _).mono ?_
      rintro e wv ⟨rfl, hwv⟩
      subst hwv
      go_wp2_with fail
      refine (implCrc0 t _ ht8).mono ?_
      rintro e wv ⟨rfl, hwv⟩
      subst hwv
      go_wp2_with fail
      refine (implCrcMore_yes (crcOf t) u _ hu8 HRG.out.1 HRG.out.2).mono ?_
      rintro e wv ⟨rfl, hwv⟩
      subst hwv
      rw [HGO.out]
      go_wp2_with fail
      refine (implCrc0 (t ++ u) _ HTU.out).mono ?_
      rintro e wv ⟨rfl, hwv⟩
      subst hwv
      go_wp2
      go_ret
      exact ⟨rfl, HBu.out⟩
end Go.Proofs.Ytpdedggnjcnpgaa
