/- What is proved here: the program's PatternText hands back the text of a right pattern, else nothing; nothing that was there turns. -/
import Derived.Test.YtkkijmbpcffadajDoorPTextM
import Derived.Test.YtkkijmbpcffadajDoorImplPRightW
import Derived.Test.YtkkijmbpcffadajDoorClsTextI
import Derived.Test.YtkkijmbpcffadajDoorWayW
import Derived.Test.YtkkijmbpcffadajDoorFromToW
import Derived.Lib.AppendStr
namespace Go.Proofs.YtkkijmbpcffadajDoor
open Go.RowKit

/-- A row of bytes that the call owns, told by a text. -/
def RowT (w : World) (B : Nat) (v : Value) (t : ByteArray) : Prop := w.ownsRow B 5 1 v t.size (Lib.strCells t)
theorem strCells_app (a b : ByteArray) : Lib.strCells (a ++ b) = Lib.strCells a ++ Lib.strCells b := by simp [Lib.strCells]
theorem RowT.none (w : World) (B : Nat) : RowT w B (.slice none 0 0) ⟨#[]⟩ := ⟨rfl, Or.inl ⟨rfl, rfl⟩⟩
theorem RowT.kept {w w' : World} {B : Nat} {v : Value} {t : ByteArray} (h : RowT w B v t) (hb : Below w.heap.size w w') : RowT w' B v t := by
  obtain ⟨hl, h⟩ := h
  refine ⟨hl, ?_⟩
  rcases h with h | ⟨g, cap, cur, h1, h2, h3, h4⟩
  · exact Or.inl h
  · refine Or.inr ⟨g, cap, cur, h1, h2, ?_, h4⟩
    rw [hb.block g (lt_of_block h3)]
    exact h3
theorem RowT.conv {w : World} {B : Nat} {v : Value} {t : ByteArray} (h : RowT w B v t) : (convert 43 9 v).run Tryd.prog w = .ok (.string t) w := by
  have h2 : w.ownsRow B 5 1 v t.size ((t.data.toList.map fun b => (b.toNat : Int)).map (Value.int .u8)) := by
    have e : (t.data.toList.map fun b => (b.toNat : Int)).map (Value.int .u8) = Lib.strCells t := by simp [Lib.strCells]
    rw [e]
    exact h
  rw [convRow h2]
  congr 2
  unfold strOfNums
  apply ByteArray.ext
  simp [Function.comp_def]
theorem wpList_appT {ops : Array Oper} {rest : List Oper} {o : Oper} {a : Act} {w : World} {Q : Exit → Act → World → Prop} (hgd : o.guard = none) (sl x : Operand)
    (ho : o.op = .call { callee := .builtin .append, args := #[sl, x], argTypes := #[43, 9] }) (B : Nat) (v : Value) (t s : ByteArray) (hs : a.eval sl = v) (hr : RowT w B v t) (hx : a.eval x = .string s) (hl : t.size + s.size ≤ 10000000) (hB : B ≤ w.heap.size)
    (h : ∀ v' w', RowT w' B v' (t ++ s) → Below B w w' → w.grownBy w' v.ownBlock → wpList Tryd.prog ops Q rest (a.put o.dst v') w') : wpList Tryd.prog ops Q (o :: rest) a w := by
  obtain ⟨i0, hi, hz0, hz1, hz2⟩ := info_parts Tryd.drawInfo
  refine Lib.wpList_append_own_string w hgd sl x 43 9 ho B 5 i0 Tryd.underlying43 Tryd.underlying9 hi hz0 hz1 hz2 v t.size (Lib.strCells t) hs hr s hx (by unfold maxLen; omega) (by omega) hB ?_
  intro v' w' ho hg _
  refine h v' w' ?_ (below_grown hg hB (fun k hk => (hr.lt k hk).1)) hg
  show w'.ownsRow B 5 1 v' (t ++ s).size (Lib.strCells (t ++ s))
  rw [strCells_app, ByteArray.size_append]
  exact ho

theorem ABox.grown {W W' : World} {p : Nat} {row : Option Nat} {a : Atm} (h : ABox W p a) (hg : W.grownBy W' row) (hne : row ≠ some p) : ABox W' p a := by
  have hb := hg.block p h.lt (fun e => hne e.symm)
  have hx : ∀ o : Nat, W'.cell? ⟨p, o, Option.none⟩ = W.cell? ⟨p, o, Option.none⟩ := fun o => by simp [World.cell?, hb]
  exact ⟨by rw [hx]; exact h.c0, by rw [hx]; exact h.c1, by rw [hx]; exact h.c2, Nat.lt_of_lt_of_le h.lt hg.size⟩
open Classical in
theorem implPText_no (sa : Option Addr) (n cap : Nat) (f : Nat → Atm) (w : World) (hn : n ≤ maxLen) (hr : ARow w w.heap.size sa n f) (hc : ∀ i, i < n → (f i).c.size ≤ maxLen) (h : ¬ PatRight n f) :
    Calls Tryd.prog 8 #[.slice sa n cap] w fun e w' => e = .returned (.string ⟨#[]⟩) ∧ Below w.heap.size w w' := by
  have HP : Hid (Calls Tryd.prog 20 #[.slice sa n cap] w fun e w' => e = .returned (.bool false) ∧ Below w.heap.size w w') := (implPRight_any sa n cap f w hn hr hc).mono fun _ _ h2 => ⟨by rw [h2.1, decide_eq_false h], h2.2⟩
  clear hn hr hc h
  go_enter Tryd.func8, Tryd.ntmps8
  go_wp2_with fail
  refine HP.out.mono ?_
  rintro e w1 ⟨rfl, hb⟩
  have B1 : Hid (Below w.heap.size w w1) := hb
  clear hb
  go_wp2_with fail
  go_ret
  exact ⟨rfl, B1.out⟩

open Classical in
set_option maxRecDepth 100000 in
set_option maxHeartbeats 16000000 in
theorem implPText_yes (sa : Option Addr) (n cap : Nat) (f : Nat → Atm) (w : World) (hn : n ≤ maxLen) (hr : ARow w w.heap.size sa n f) (hc : ∀ i, i < n → (f i).c.size ≤ maxLen) (h : PatRight n f) (hT : Tab64 w) (hp0 : 1 < w.heap.size) :
    Calls Tryd.prog 8 #[.slice sa n cap] w fun e w' => e = .returned (.string (patTo f n)) ∧ Below w.heap.size w w' := by
  have HP : Hid (Calls Tryd.prog 20 #[.slice sa n cap] w fun e w' => e = .returned (.bool true) ∧ Below w.heap.size w w') := (implPRight_any sa n cap f w hn hr hc).mono fun _ _ h2 => ⟨by rw [h2.1, decide_eq_true h], h2.2⟩
  have HR : Hid (ARow w w.heap.size sa n f) := hr
  have HH : Hid (PatRight n f) := h
  have HT : Hid (Tab64 w) := hT
  have hn20 := h.2.1
  clear hn hr hc h hT
  go_enter Tryd.func8, Tryd.ntmps8
  go_wp2_with fail
  refine HP.out.mono ?_
  rintro e w1 ⟨rfl, hb⟩
  have B1 : Hid (Below w.heap.size w w1) := hb
  clear hb HP
  go_wp2_with fail
  go_loopw [3, 11] (fun v i wr => ∃ k : Nat, k ≤ n ∧ i = .int .i64 (k : Int) ∧ RowT wr w.heap.size v (patTo f k) ∧ Below w.heap.size w wr) (fun _ i _ => n - (intOf i).toNat)
  case atStart => exact ⟨0, Nat.zero_le _, rfl, RowT.none _ _, B1.out⟩
  case round =>
    obtain ⟨k, hk, rfl, hrow, hbel⟩ := hrel
    have HB : Hid (Below w.heap.size w wr) := hbel
    have HW : Hid (RowT wr w.heap.size u3 (patTo f k)) := hrow
    have hS := patTo_size (f := f) k (fun i hi => right_size (HH.out.2.2.1 i (by omega)).1)
    have hS2 : (patTo f k).size ≤ 100000 := by omega
    clear hS hrow
    by_cases hkl : k < n
    · obtain ⟨bb, off, rfl, hbb, hat⟩ := HR.out.at hbel hkl
      obtain ⟨c0, c1, c2⟩ := hat
      have hA := HH.out.2.2.1 k hkl
      clear hbel
      have hki : (k : Int) < (n : Int) := by omega
      have hk0 : (0 : Int) ≤ (k : Int) := by omega
      have HSU : Hid (patTo f (k + 1) = (patTo f k ++ clsP (f k).c) ++ oftT (f k).l (f k).m) := rfl
      obtain ⟨⟨ac, al, am⟩, ha⟩ : ∃ a, f k = a := ⟨_, rfl⟩
      rw [ha] at c0 c1 c2 HSU hA
      simp only at c0 c1 c2 HSU
      have h256 := right_size hA.1
      simp only at h256
      have HC : Hid (∀ W, Tab64 W → 1 < W.heap.size → Calls Tryd.prog 21 #[.string ac] W fun e w' => e = .returned (.string (clsP ac)) ∧ Below W.heap.size W w') := fun W h1 h2 => implCText_yes ac W hA.1 hA.2.1 h1 h2
      have HO : Hid (Ways al am) := ways_of hA.2.2.1 hA.2.2.2.1 hA.2.2.2.2
      have z1 := clsP_size h256
      have z2 := oftT_size al am
      clear ha hA h256
      generalize clsP ac = x1 at *
      generalize patTo f k = T at *
      have z3 : (T ++ x1).size = T.size + x1.size := ByteArray.size_append
      have bx := ABox.new wr ⟨ac, al, am⟩ 40
      simp only at bx
      have hb0 : Below wr.heap.size wr (wr.alloc (.cells #[.string ac, .int .i64 al, .int .i64 am] 40)) := (Below.refl _ _).alloc (Nat.le_refl _) _
      have BX : Hid (Below w.heap.size w (wr.alloc (.cells #[.string ac, .int .i64 al, .int .i64 am] 40))) := HB.out.trans (hb0.mono HB.out.size)
      have RX : Hid (RowT (wr.alloc (.cells #[.string ac, .int .i64 al, .int .i64 am] 40)) w.heap.size u3 T) := HW.out.kept hb0
      have HPG : Hid (u3.ownBlock ≠ some wr.heap.size) := fun e => by have := (HW.out.lt _ e).2; omega
      go_wp2_with fail
      generalize wr.alloc (.cells #[.string ac, .int .i64 al, .int .i64 am] 40) = v at *
      generalize wr.heap.size = p at *
      clear HB HW c0 c1 c2 hb0
      refine (HC.out _ (HT.out.kept BX.out hp0) (by have := BX.out.size; omega)).mono ?_
      rintro e w2 ⟨rfl, hb⟩
      have B2 : Hid (Below w.heap.size w w2) := BX.out.trans (hb.mono BX.out.size)
      have R2 : Hid (RowT w2 w.heap.size u3 T) := RX.out.kept hb
      have HX2 : Hid (ABox w2 p ⟨ac, al, am⟩) := bx.kept hb bx.lt
      have hw2 := B2.out.size
      clear hb bx BX RX HC
      go_wp2_with (at_builtin; refine wpList_appT rfl (.tmp 15) (.tmp 18) rfl w.heap.size u3 T x1 rfl R2.out rfl ?c1 ?c2 ?_)
      case c1 => omega
      case c2 => exact B2.out.size
      intro v3 w3 hrow3 hbel3 hgr3
      have HX3 : Hid (ABox w3 p ⟨ac, al, am⟩) := HX2.out.grown hgr3 HPG.out
      have B3 : Hid (Below w.heap.size w w3) := B2.out.trans hbel3
      have R3 : Hid (RowT w3 w.heap.size v3 (T ++ x1)) := hrow3
      clear hrow3 hbel3 hgr3 HX2 B2 R2
      obtain ⟨e0, e1, e2, el⟩ := HX3.out.all
      simp only at e0 e1 e2
      go_wp2_with fail
      refine (wayFor_any ac al am _ HO.out).mono ?_
      rintro e w4 ⟨wv, rfl, hway, hb⟩
      have B4 : Hid (Below w.heap.size w w4) := B3.out.trans (hb.mono B3.out.size)
      have R4 : Hid (RowT w4 w.heap.size v3 (T ++ x1)) := R3.out.kept hb
      clear hb HX3 B3 R3 e0 e1 e2 el HO
      rcases hway with ⟨rfl, rfl, rfl⟩ | ⟨rfl, rfl, rfl⟩ | ⟨rfl, rfl, rfl⟩ | ⟨rfl, rfl, rfl⟩ | ⟨q, hq1, hq2, rfl, rfl, rfl⟩ | ⟨q, hq1, hq2, rfl, rfl, rfl⟩ | ⟨q, j, hq1, hq2, hq3, rfl, rfl, rfl⟩
      · have HOF := oft_once
        have HOF2 : Hid (oftT 1 1 = _) := HOF
        clear HOF
        go_wp2_with fail
        refine (once_any _).mono ?_
        rintro e w5 ⟨rfl, hb⟩
        have B5 : Hid (Below w.heap.size w w5) := B4.out.trans (hb.mono B4.out.size)
        have R5 : Hid (RowT w5 w.heap.size v3 (T ++ x1)) := R4.out.kept hb
        clear hb
        go_wp2_with (at_builtin; refine wpList_appT rfl (.tmp 20) (.tmp 23) rfl w.heap.size v3 (T ++ x1) ⟨#[]⟩ rfl R5.out rfl ?c1 ?c2 ?_)
        case c1 => show (T ++ x1).size + 0 ≤ _; omega
        case c2 => exact B5.out.size
        intro v6 w6 hrow6 hbel6 _
        have B6 : Hid (Below w.heap.size w w6) := B5.out.trans hbel6
        have R6 : Hid (RowT w6 w.heap.size v6 ((T ++ x1) ++ oftT 1 1)) := by show RowT w6 w.heap.size v6 ((T ++ x1) ++ oftT 1 1); rw [HOF2.out]; exact hrow6
        clear hrow6 hbel6
        go_wp2_with fail
        go_roundw
        case rel => exact ⟨k + 1, by omega, by go_num, by rw [HSU.out]; exact R6.out, B6.out⟩
        case measure => simp [intOf]; omega
      · have HOF := oft_maybe
        have HOF2 : Hid (oftT 0 1 = _) := HOF
        clear HOF
        go_wp2_with fail
        refine (maybe_any _).mono ?_
        rintro e w5 ⟨rfl, hb⟩
        rw [← HOF2.out]
        have B5 : Hid (Below w.heap.size w w5) := B4.out.trans (hb.mono B4.out.size)
        have R5 : Hid (RowT w5 w.heap.size v3 (T ++ x1)) := R4.out.kept hb
        clear hb HOF2
        generalize oftT 0 1 = x2 at *
        go_wp2_with (at_builtin; refine wpList_appT rfl (.tmp 20) (.tmp 23) rfl w.heap.size v3 (T ++ x1) x2 rfl R5.out rfl ?c1 ?c2 ?_)
        case c1 => omega
        case c2 => exact B5.out.size
        intro v6 w6 hrow6 hbel6 _
        have B6 : Hid (Below w.heap.size w w6) := B5.out.trans hbel6
        have R6 : Hid (RowT w6 w.heap.size v6 ((T ++ x1) ++ x2)) := hrow6
        clear hrow6 hbel6
        go_wp2_with fail
        go_roundw
        case rel => exact ⟨k + 1, by omega, by go_num, by rw [HSU.out]; exact R6.out, B6.out⟩
        case measure => simp [intOf]; omega
      · have HOF := oft_any
        have HOF2 : Hid (oftT 0 (-1) = _) := HOF
        clear HOF
        go_wp2_with fail
        refine (anyT_any _).mono ?_
        rintro e w5 ⟨rfl, hb⟩
        rw [← HOF2.out]
        have B5 : Hid (Below w.heap.size w w5) := B4.out.trans (hb.mono B4.out.size)
        have R5 : Hid (RowT w5 w.heap.size v3 (T ++ x1)) := R4.out.kept hb
        clear hb HOF2
        generalize oftT 0 (-1) = x2 at *
        go_wp2_with (at_builtin; refine wpList_appT rfl (.tmp 20) (.tmp 23) rfl w.heap.size v3 (T ++ x1) x2 rfl R5.out rfl ?c1 ?c2 ?_)
        case c1 => omega
        case c2 => exact B5.out.size
        intro v6 w6 hrow6 hbel6 _
        have B6 : Hid (Below w.heap.size w w6) := B5.out.trans hbel6
        have R6 : Hid (RowT w6 w.heap.size v6 ((T ++ x1) ++ x2)) := hrow6
        clear hrow6 hbel6
        go_wp2_with fail
        go_roundw
        case rel => exact ⟨k + 1, by omega, by go_num, by rw [HSU.out]; exact R6.out, B6.out⟩
        case measure => simp [intOf]; omega
      · have HOF := oft_some
        have HOF2 : Hid (oftT 1 (-1) = _) := HOF
        clear HOF
        go_wp2_with fail
        refine (someT_any _).mono ?_
        rintro e w5 ⟨rfl, hb⟩
        rw [← HOF2.out]
        have B5 : Hid (Below w.heap.size w w5) := B4.out.trans (hb.mono B4.out.size)
        have R5 : Hid (RowT w5 w.heap.size v3 (T ++ x1)) := R4.out.kept hb
        clear hb HOF2
        generalize oftT 1 (-1) = x2 at *
        go_wp2_with (at_builtin; refine wpList_appT rfl (.tmp 20) (.tmp 23) rfl w.heap.size v3 (T ++ x1) x2 rfl R5.out rfl ?c1 ?c2 ?_)
        case c1 => omega
        case c2 => exact B5.out.size
        intro v6 w6 hrow6 hbel6 _
        have B6 : Hid (Below w.heap.size w w6) := B5.out.trans hbel6
        have R6 : Hid (RowT w6 w.heap.size v6 ((T ++ x1) ++ x2)) := hrow6
        clear hrow6 hbel6
        go_wp2_with fail
        go_roundw
        case rel => exact ⟨k + 1, by omega, by go_num, by rw [HSU.out]; exact R6.out, B6.out⟩
        case measure => simp [intOf]; omega
      · have HOF := oft_just hq1
        have HOF2 : Hid (oftT (q : Int) (q : Int) = _) := HOF
        clear HOF
        go_wp2_with fail
        refine (exactly_any q hq2 _).mono ?_
        rintro e w5 ⟨rfl, hb⟩
        rw [← HOF2.out]
        have B5 : Hid (Below w.heap.size w w5) := B4.out.trans (hb.mono B4.out.size)
        have R5 : Hid (RowT w5 w.heap.size v3 (T ++ x1)) := R4.out.kept hb
        clear hb HOF2
        generalize oftT (q : Int) (q : Int) = x2 at *
        go_wp2_with (at_builtin; refine wpList_appT rfl (.tmp 20) (.tmp 23) rfl w.heap.size v3 (T ++ x1) x2 rfl R5.out rfl ?c1 ?c2 ?_)
        case c1 => omega
        case c2 => exact B5.out.size
        intro v6 w6 hrow6 hbel6 _
        have B6 : Hid (Below w.heap.size w w6) := B5.out.trans hbel6
        have R6 : Hid (RowT w6 w.heap.size v6 ((T ++ x1) ++ x2)) := hrow6
        clear hrow6 hbel6
        go_wp2_with fail
        go_roundw
        case rel => exact ⟨k + 1, by omega, by go_num, by rw [HSU.out]; exact R6.out, B6.out⟩
        case measure => simp [intOf]; omega
      · have HOF := oft_from hq1
        have HOF2 : Hid (oftT (q : Int) (-1) = _) := HOF
        clear HOF
        go_wp2_with fail
        refine (atLeast_any q hq2 _).mono ?_
        rintro e w5 ⟨rfl, hb⟩
        rw [← HOF2.out]
        have B5 : Hid (Below w.heap.size w w5) := B4.out.trans (hb.mono B4.out.size)
        have R5 : Hid (RowT w5 w.heap.size v3 (T ++ x1)) := R4.out.kept hb
        clear hb HOF2
        generalize oftT (q : Int) (-1) = x2 at *
        go_wp2_with (at_builtin; refine wpList_appT rfl (.tmp 20) (.tmp 23) rfl w.heap.size v3 (T ++ x1) x2 rfl R5.out rfl ?c1 ?c2 ?_)
        case c1 => omega
        case c2 => exact B5.out.size
        intro v6 w6 hrow6 hbel6 _
        have B6 : Hid (Below w.heap.size w w6) := B5.out.trans hbel6
        have R6 : Hid (RowT w6 w.heap.size v6 ((T ++ x1) ++ x2)) := hrow6
        clear hrow6 hbel6
        go_wp2_with fail
        go_roundw
        case rel => exact ⟨k + 1, by omega, by go_num, by rw [HSU.out]; exact R6.out, B6.out⟩
        case measure => simp [intOf]; omega
      · have HOF := oft_two hq1 (Nat.ne_of_lt hq3)
        have HQ3 : Hid (q < j) := hq3
        have HOF2 : Hid (oftT (q : Int) (j : Int) = _) := HOF
        clear HOF
        go_wp2_with fail
        refine (fromTo_any q j (Nat.le_of_lt (Nat.lt_of_lt_of_le HQ3.out hq2)) hq2 _).mono ?_
        rintro e w5 ⟨rfl, hb⟩
        rw [← HOF2.out]
        have B5 : Hid (Below w.heap.size w w5) := B4.out.trans (hb.mono B4.out.size)
        have R5 : Hid (RowT w5 w.heap.size v3 (T ++ x1)) := R4.out.kept hb
        clear hb HOF2
        generalize oftT (q : Int) (j : Int) = x2 at *
        go_wp2_with (at_builtin; refine wpList_appT rfl (.tmp 20) (.tmp 23) rfl w.heap.size v3 (T ++ x1) x2 rfl R5.out rfl ?c1 ?c2 ?_)
        case c1 => omega
        case c2 => exact B5.out.size
        intro v6 w6 hrow6 hbel6 _
        have B6 : Hid (Below w.heap.size w w6) := B5.out.trans hbel6
        have R6 : Hid (RowT w6 w.heap.size v6 ((T ++ x1) ++ x2)) := hrow6
        clear hrow6 hbel6
        go_wp2_with fail
        go_roundw
        case rel => exact ⟨k + 1, by omega, by go_num, by rw [HSU.out]; exact R6.out, B6.out⟩
        case measure => simp [intOf]; omega
    · have hki : ¬ (k : Int) < (n : Int) := by omega
      obtain rfl : k = n := by omega
      have hcv := HW.out.conv
      clear hbel
      go_wp2_with fail
      go_ret
      exact ⟨rfl, HB.out⟩
end Go.Proofs.YtkkijmbpcffadajDoor
