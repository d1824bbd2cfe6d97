/- What is proved here: the program's CellsOf hands back the cells of a right pattern, in new memory, else none; nothing that was there turns. -/
import Derived.Test.YthnnenbpbkmbhaaGreatQImplCRightWToImplPYesW
import Derived.Test.YthnnenbpbkmbhaaGreatQCellDToCopy3W
import Derived.Test.YthnnenbpbkmbhaaGreatQClassRightWToPickW
import Derived.Deep.RegionHeld3
namespace Go.Proofs.YthnnenbpbkmbhaaGreat
open Go.RowKit

theorem COwn.less {w : World} {g n m : Nat} {f : Nat → Cel} (h : COwn w g n f) (hm : m ≤ n) : COwn w g m f := ⟨h.lt, fun i hi => h.at' i (by omega), fun i hi => h.free i (by omega)⟩
theorem getD_appendC (l m : List Cel) (i : Nat) : (l ++ m).getD i cel0 = if i < l.length then l.getD i cel0 else m.getD (i - l.length) cel0 := by
  by_cases h : i < l.length
  · rw [if_pos h, List.getD_eq_getElem?_getD, List.getD_eq_getElem?_getD, List.getElem?_append_left h]
  · rw [if_neg h, List.getD_eq_getElem?_getD, List.getD_eq_getElem?_getD, List.getElem?_append_right (by omega)]
set_option maxRecDepth 100000 in
set_option maxHeartbeats 4000000 in
theorem implKOf_yes (sa : Option Addr) (n cap : Nat) (f : Nat → Atm) (w : World) (hn : n ≤ maxLen) (hr : ARow w w.heap.size sa n f) (hc : ∀ i, i < n → (f i).c.size ≤ maxLen) (hP : PatRight n f) :
    Calls Tryz.prog 6 #[.slice sa n cap] w fun e w' => NewCells w (cellsP (atomsL f n)).length (fun i => (cellsP (atomsL f n)).getD i cel0) e w' := by
  have C := implPRight_yes sa n cap f w hn hr hc hP
  have HP : Hid (PatRight n f) := hP
  have HR : Hid (ARow w w.heap.size sa n f) := hr
  have HSZ : Hid (∀ i, i < n → (f i).c.size ≤ 256) := fun i hi => right_size (hP.2.2.1 i hi).1
  have HL : Hid (∀ k, k ≤ n → (cellsP (atomsL f k)).length ≤ 40) := fun k hk => by
    have h1 := sum_len k (fun i hi => hP.2.2.1 i (by omega))
    have h2 := sumTo_mono hk hP.2.2.1
    have h3 := hP.2.2.2
    omega
  have hn20 := hP.2.1
  clear hn hr hc hP
  go_enter Tryz.func6, Tryz.ntmps6
  go_wp2_with fail
  refine C.mono ?_
  rintro e w1 ⟨rfl, hb1⟩
  have B1 : Hid (Below w.heap.size w w1) := hb1
  obtain ⟨CC, hmk, hown⟩ := make_cells w1 40 (by omega)
  rw [show ((40 : Nat) : Int) = (40 : Int) from rfl] at hmk
  have O2 : Hid (COwn (w1.alloc (.cells CC 95)) w1.heap.size 40 (fun _ => cel0)) := hown
  have B2 : Hid (Below w.heap.size w (w1.alloc (.cells CC 95))) := B1.out.alloc B1.out.size _
  have hwg : w.heap.size ≤ w1.heap.size := B1.out.size
  clear C hb1 hown
  go_wp2_with fail
  generalize w1.alloc (.cells CC 95) = v2 at *
  generalize w1.heap.size = g at *
  clear hmk B1
  go_loopw [4, 13] (fun cv iv wr => ∃ k : Nat, k ≤ n ∧ iv = .int .i64 (k : Int) ∧ cv = .int .i64 ((cellsP (atomsL f k)).length : Int) ∧ Below w.heap.size w wr ∧ COwn wr g 40 (fun i => (cellsP (atomsL f k)).getD i cel0)) (fun _ iv _ => n - (intOf iv).toNat)
  case atStart => exact ⟨0, Nat.zero_le _, rfl, rfl, B2.out, O2.out.congr (fun i _ => by simp [atomsL, cellsP])⟩
  case round =>
    obtain ⟨k, hk, rfl, rfl, hbel, hown⟩ := hrel
    have HB : Hid (Below w.heap.size w wr) := hbel
    have HO : Hid (COwn wr g 40 (fun i => (cellsP (atomsL f k)).getD i cel0)) := hown
    have hglt := hown.lt
    have hlen := HL.out k hk
    by_cases hkl : k < n
    · have hki : (k : Int) < (n : Int) := by omega
      have hk0 : (0 : Int) ≤ (k : Int) := by omega
      obtain ⟨bb, off, rfl, hbb, hat⟩ := HR.out.at hbel hkl
      obtain ⟨c0, c1, c2⟩ := hat
      have hsz9 := HSZ.out k hkl
      have har := HP.out.2.2.1 k hkl
      have hlen2 := HL.out (k + 1) (by omega)
      rw [atomsL_succ, cellsP_append, List.length_append, cellsA_len] at hlen2
      obtain ⟨⟨ac, al, am⟩, ha⟩ : ∃ a, f k = a := ⟨_, rfl⟩
      rw [ha] at c0 c1 c2 hsz9 har hlen2
      simp only at c0 c1 c2 hsz9
      have HST : Hid (cellsP (atomsL f (k + 1)) = cellsP (atomsL f k) ++ cellsA ⟨ac, al, am⟩) := by
        show cellsP (atomsL f (k + 1)) = _
        rw [atomsL_succ, cellsP_append, ha]
      have CA := fun W => cellsOfAtom_any ac al am W har hsz9
      have HCA : Hid (∀ W, Calls Tryz.prog 50 #[.agg #[.string ac, .int .i64 al, .int .i64 am]] W fun e w' => ∃ g : Nat, e = .returned (.slice (some ⟨g, 0, none⟩) (cnt ⟨ac, al, am⟩) (cnt ⟨ac, al, am⟩)) ∧ W.heap.size ≤ g ∧ Below W.heap.size W w' ∧ COwn w' g (cnt ⟨ac, al, am⟩) (cellA ⟨ac, al, am⟩)) := CA
      obtain ⟨hm1, hm2, hm3⟩ := cnt_bd har
      clear hm3
      have HGET : Hid (∀ i, i < cnt ⟨ac, al, am⟩ → (cellsA ⟨ac, al, am⟩).getD i cel0 = cellA ⟨ac, al, am⟩ i) := fun i hi => cellsA_get hi
      have HCL : Hid ((cellsA ⟨ac, al, am⟩).length = cnt ⟨ac, al, am⟩) := cellsA_len _
      have bx := ABox.new wr ⟨ac, al, am⟩ 69
      simp only at bx
      have BX : Hid (Below w.heap.size w (wr.alloc (.cells #[.string ac, .int .i64 al, .int .i64 am] 69))) := HB.out.alloc HB.out.size _
      have OX : Hid (COwn (wr.alloc (.cells #[.string ac, .int .i64 al, .int .i64 am] 69)) g 40 (fun i => (cellsP (atomsL f k)).getD i cel0)) := HO.out.kept (B := wr.heap.size) ((Below.refl _ _).alloc (Nat.le_refl _) _) hglt
      clear hbel hown ha har CA
      generalize cellsA ⟨ac, al, am⟩ = LA at *
      generalize cellA ⟨ac, al, am⟩ = fA at *
      generalize cnt ⟨ac, al, am⟩ = m at *
      generalize cellsP (atomsL f k) = LK at *
      obtain ⟨q, hq⟩ : ∃ q, LK.length = q := ⟨_, rfl⟩
      rw [hq] at hlen hlen2 ⊢
      go_wp2_with fail
      generalize wr.alloc (.cells #[.string ac, .int .i64 al, .int .i64 am] 69) = v at *
      generalize hpp : wr.heap.size = p at *
      obtain ⟨x0, x1, x2, xl⟩ := bx.all
      have hq0 : (0 : Int) ≤ (q : Int) := by omega
      have hq40 : (q : Int) ≤ 40 := by omega
      have hnq : ¬ (40 : Int) < (q : Int) := by omega
      have hgp : g < p := by omega
      have hne40 : ¬ 40 = q := by omega
      have hm0 : (0 : Int) ≤ (m : Int) := by omega
      have hwq : IntKind.i64.wrap ((q : Int) + (m : Int)) = (q : Int) + (m : Int) := by rw [IntKind.wrap_i64]; omega
      have ST : Hid (∀ (w5 w6 : World) (g5 : Nat), Below v.heap.size v w5 → w5.grownBy w6 (some g) → COwn w6 g 40 (fun i => if q ≤ i ∧ i < q + m then fA (i - q) else LK.getD i cel0) → Below w.heap.size w w6 ∧ COwn w6 g 40 (fun i => (cellsP (atomsL f (k + 1))).getD i cel0)) := fun w5 w6 g5 hb5 hg6 ho6 => by
        refine ⟨BX.out.trans ((hb5.mono BX.out.size).trans ⟨hg6.os, hg6.tape, hg6.output, hg6.size, fun j hj => hg6.block j (Nat.lt_of_lt_of_le (Nat.lt_of_lt_of_le hj BX.out.size) hb5.size) (fun e => by injection e with e; omega)⟩), ho6.congr (fun i hi => ?_)⟩
        rw [HST.out, getD_appendC, hq]
        by_cases e : i < q
        · rw [if_neg (by omega), if_pos e]
        · rw [if_neg e]
          by_cases e2 : i < q + m
          · rw [if_pos ⟨by omega, e2⟩, HGET.out _ (by omega)]
          · have e3 : LK[i]? = none := List.getElem?_eq_none (by omega)
            have e4 : LA[i - q]? = none := List.getElem?_eq_none (by rw [HCL.out]; omega)
            rw [if_neg (by omega), List.getD_eq_getElem?_getD, List.getD_eq_getElem?_getD, e3, e4]
      have HCP : Hid (∀ (w5 : World) (g5 : Nat), Below v.heap.size v w5 → COwn w5 g5 m fA → ∃ w6, (Builtin.copy_ #[26, 26] 3 #[.slice (some ⟨g, q * 3, none⟩) (40 - q) (40 - q), .slice (some ⟨g5, 0, none⟩) m m]).run Tryz.prog w5 = .ok (.int .i64 (m : Int)) w6 ∧ w5.grownBy w6 (some g) ∧ COwn w6 g 40 (fun i => if q ≤ i ∧ i < q + m then fA (i - q) else LK.getD i cel0)) := fun w5 g5 hb5 ho5 => copy_cells w5 g 40 (40 - q) q m (40 - q) m (some ⟨g5, 0, none⟩) _ fA (by omega) (by omega) rfl (OX.out.kept hb5 (by have := OX.out.lt; omega)) (ho5.row ho5.lt)
      go_region_held3 (fun W => W.cell? ⟨p, 0, none⟩ = some (.string ac) ∧ W.cell? ⟨p, 1, none⟩ = some (.int .i64 al) ∧ W.cell? ⟨p, 2, none⟩ = some (.int .i64 am)) (go_keep) (first | (go_at_call 50; refine (HCA.out _).mono ?_; rintro e w5 ⟨g5, rfl, hg5, hb5, ho5⟩; have HB5 : Hid (Below v.heap.size v w5) := ((Below.refl v.heap.size v).drew).trans hb5; obtain ⟨w6, hcp, hg6, ho6⟩ := HCP.out w5 g5 HB5.out ho5; have Y5 := ABox.kept bx HB5.out xl; have hb6 := hg6.block p Y5.lt (fun e => by injection e with e; omega); obtain ⟨y0, y1, y2, yl⟩ := Y5.all; have z0 : w6.cell? ⟨p, 0, none⟩ = some (.string ac) := (by simpa [World.cell?, hb6] using y0); have z1 : w6.cell? ⟨p, 1, none⟩ = some (.int .i64 al) := (by simpa [World.cell?, hb6] using y1); have z2 : w6.cell? ⟨p, 2, none⟩ = some (.int .i64 am) := (by simpa [World.cell?, hb6] using y2); have FIN : Hid (Below w.heap.size w w6 ∧ COwn w6 g 40 (fun i => (cellsP (atomsL f (k + 1))).getD i cel0)) := ST.out w5 w6 g5 HB5.out hg6 ho6; clear hb5 ho5 hg6 ho6 hb6))
      all_goals
        go_wp2_with fail
        go_roundw
        case rel => exact ⟨k + 1, by omega, by go_num, by rw [HST.out, List.length_append, HCL.out, hq]; go_num, FIN.out⟩
        case measure => simp [intOf]; omega
    · have hki : ¬ (k : Int) < (n : Int) := by omega
      obtain rfl : k = n := by omega
      clear hbel hown
      generalize hLL : cellsP (atomsL f k) = LL at *
      obtain ⟨q, hq⟩ : ∃ q, LL.length = q := ⟨_, rfl⟩
      rw [hq] at hlen ⊢
      have hq0 : (0 : Int) ≤ (q : Int) := by omega
      have hnq : ¬ (40 : Int) < (q : Int) := by omega
      go_wp2_with fail
      go_ret
      exact ⟨_, _, rfl, HB.out, Or.inr ⟨g, rfl, hwg, hglt, (HO.out.less hlen).congr (fun i _ => by first | rfl | simp)⟩⟩
theorem implKOf_no (sa : Option Addr) (n cap : Nat) (f : Nat → Atm) (w : World) (hn : n ≤ maxLen) (hr : ARow w w.heap.size sa n f) (hc : ∀ i, i < n → (f i).c.size ≤ maxLen) (hP : ¬ PatRight n f) :
    Calls Tryz.prog 6 #[.slice sa n cap] w fun e w' => NewCells w 0 (fun _ => cel0) e w' := by
  have C := implPRight_no sa n cap f w hn hr hc hP
  have NI : Hid (∀ W, Below w.heap.size w W → NewCells w 0 (fun _ => cel0) (.returned (.slice none 0 0)) W) := fun W hb => ⟨none, 0, rfl, hb, Or.inl rfl⟩
  clear hn hr hc hP
  go_enter Tryz.func6, Tryz.ntmps6
  go_wp2_with fail
  refine C.mono ?_
  rintro e w1 ⟨rfl, hb1⟩
  have B1 : Hid (Below w.heap.size w w1) := hb1
  clear hb1 C
  go_wp2_with fail
  go_ret
  exact NI.out _ B1.out
end Go.Proofs.YthnnenbpbkmbhaaGreat
