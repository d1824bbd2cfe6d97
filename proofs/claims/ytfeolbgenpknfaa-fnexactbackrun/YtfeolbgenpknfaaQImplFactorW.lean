/- What is proved here: the program's IsFactor and BorderOf say what a factor and what the border is; nothing that was there turns. -/
import Derived.Test.YtfeolbgenpknfaaQLookFW
import Derived.Test.YtfeolbgenpknfaaQSpecFactorW
import Derived.Test.YtfeolbgenpknfaaQRowOfW
namespace Go.Proofs.Ytfeolbgenpknfaa
open Go.RowKit

/-- A row that is looked at from behind, in new memory. -/
def NewBack (w w' : World) (pr br : Nat) (sa : Option Addr) (n cap : Nat) (f : Nat → Cel) : Prop := ∃ sk lo : Nat, w.heap.size ≤ br ∧ pr < w'.heap.size ∧ Below w.heap.size w w' ∧ BackAt w' pr br sa n cap sk lo f
theorem back_new {w1 : World} {br sk lo : Nat} {sa : Option Addr} {n cap : Nat} {f : Nat → Cel} (ty : TypeId) (hk : KRow w1 br sa n cap sk lo 0 0 (fun _ => 0)) (hr : CRow w1 br sa n f) :
    BackAt (w1.alloc (.cells #[.pointer (some ⟨br, 0, none⟩), .int .u64 ((2 ^ (n + 1) - 1 : Nat) : Int)] ty)) w1.heap.size br sa n cap sk lo f := by
  have hb : Below w1.heap.size w1 (w1.alloc (.cells #[.pointer (some ⟨br, 0, none⟩), .int .u64 ((2 ^ (n + 1) - 1 : Nat) : Int)] ty)) := (Below.refl _ _).alloc (Nat.le_refl _) _
  have hl := hk.lt
  exact ⟨by rw [World.cell?_alloc_mark]; rfl, by rw [World.cell?_alloc_mark]; rfl, Or.inl (hk.kept hb hl), hr.kept (hb.mono (by omega)), hl⟩
open Classical in
theorem implPlainB_yes (sa : Option Addr) (n cap : Nat) (f : Nat → Cel) (w : World) (hn : n ≤ maxLen) (hr : CRow w w.heap.size sa n f) (hc : ∀ i, i < n → (f i).c.size ≤ maxLen) (h : PlainP n f) :
    Calls Try.prog 106 #[.slice sa n cap] w fun e w' => e = .returned (.bool true) ∧ Below w.heap.size w w' :=
  (implPlain_any sa n cap f w hn hr hc).mono fun _ _ h2 => ⟨by rw [h2.1, decide_eq_true h], h2.2⟩
open Classical in
theorem implPlainB_no (sa : Option Addr) (n cap : Nat) (f : Nat → Cel) (w : World) (hn : n ≤ maxLen) (hr : CRow w w.heap.size sa n f) (hc : ∀ i, i < n → (f i).c.size ≤ maxLen) (h : ¬ PlainP n f) :
    Calls Try.prog 106 #[.slice sa n cap] w fun e w' => e = .returned (.bool false) ∧ Below w.heap.size w w' :=
  (implPlain_any sa n cap f w hn hr hc).mono fun _ _ h2 => ⟨by rw [h2.1, decide_eq_false h], h2.2⟩
set_option maxRecDepth 100000 in
set_option maxHeartbeats 4000000 in
theorem backRowOf_yes (sa : Option Addr) (n cap : Nat) (f : Nat → Cel) (w : World) (hn : n ≤ maxLen) (hr : CRow w w.heap.size sa n f) (hc : ∀ i, i < n → (f i).c.size ≤ maxLen) (h : PlainP n f) :
    Calls Try.prog 80 #[.slice sa n cap] w fun e w' => ∃ pr br : Nat, e = .returned (.pointer (some ⟨pr, 0, none⟩)) ∧ NewBack w w' pr br sa n cap f := by
  have C := implPlainB_yes sa n cap f w hn hr hc h
  have HR : Hid (CRow w w.heap.size sa n f) := hr
  have HW : Hid (∀ W, Below w.heap.size w W → Calls Try.prog 107 #[.slice sa n cap] W fun e w' => ∃ b sk lo : Nat, e = .returned (.pointer (some ⟨b, 0, none⟩)) ∧ W.heap.size ≤ b ∧ Below W.heap.size W w' ∧ IsBits sk (behind (fun i => (f i).k) n) ∧ IsBits lo (behind (fun i => (f i).o) n) ∧ KRow w' b sa n cap sk lo 0 0 (fun _ => 0)) := fun W hW => rowOf_yes sa n cap f W hn ((hr.kept hW).up hW.size) hc h.1
  have hn60 := h.1.2.1
  clear hn hr hc h
  obtain ⟨q, hq⟩ : ∃ q, n + 1 = q := ⟨_, rfl⟩
  have HQ : Hid (n + 1 = q) := hq
  have hqi : (n : Int) + 1 = (q : Int) := by omega
  have hq0 : (0 : Int) ≤ (q : Int) := by omega
  have hq1 : (q : Int) < 64 := by omega
  have hpl : 2 ^ q < 18446744073709551616 := pow_lt64 (by omega)
  have hpp : 0 < 2 ^ q := Nat.pow_pos (by decide)
  have hpw := wrap_powP (r := q) (by omega)
  have hal : ((2 ^ q : Nat) : Int) - 1 = ((2 ^ q - 1 : Nat) : Int) := by omega
  have hwa : IntKind.u64.wrap ((2 ^ q - 1 : Nat) : Int) = ((2 ^ q - 1 : Nat) : Int) := by rw [IntKind.wrap_u64]; omega
  have hwq : IntKind.i64.wrap (q : Int) = (q : Int) := by rw [IntKind.wrap_i64] <;> omega
  obtain ⟨al, hae⟩ : ∃ al, 2 ^ q - 1 = al := ⟨_, rfl⟩
  have HAL : Hid (2 ^ (n + 1) - 1 = al) := by show _ = _; rw [hq]; exact hae
  rw [hae] at hal hwa
  clear hae hq
  go_enter Try.func80, Try.ntmps80
  go_wp2_with fail
  refine C.mono ?_
  rintro e w1 ⟨rfl, hb1⟩
  have B1 : Hid (Below w.heap.size w w1) := hb1
  clear hb1 C
  generalize ((2 ^ q : Nat) : Int) = P at *
  go_wp2_with fail
  go_region_with (go_at_call 107; refine (HW.out _ (by first | exact B1.out.drew | exact B1.out)).mono ?_; rintro e w2 ⟨b, sk, lo, rfl, hbl, hb2, _, _, hk⟩; have S2 : Hid (Below w.heap.size w w2 ∧ w.heap.size ≤ b ∧ KRow w2 b sa n cap sk lo 0 0 (fun _ => 0)) := ⟨(by first | exact B1.out.drew.trans (hb2.mono B1.out.size) | exact B1.out.trans (hb2.mono B1.out.size)), Nat.le_trans B1.out.size hbl, hk⟩; clear hbl hb2 hk)
  all_goals
    go_wp2_with fail
    go_ret
    refine ⟨_, b, rfl, sk, lo, S2.out.2.1, by simp, S2.out.1.alloc S2.out.1.size _, ?_⟩
    rw [← HAL.out]
    exact back_new _ S2.out.2.2 ((HR.out.kept S2.out.1).up S2.out.2.1)
theorem backRowOf_no (sa : Option Addr) (n cap : Nat) (f : Nat → Cel) (w : World) (hn : n ≤ maxLen) (hr : CRow w w.heap.size sa n f) (hc : ∀ i, i < n → (f i).c.size ≤ maxLen) (h : ¬ PlainP n f) :
    Calls Try.prog 80 #[.slice sa n cap] w fun e w' => e = .returned (.pointer none) ∧ Below w.heap.size w w' := by
  have C := implPlainB_no sa n cap f w hn hr hc h
  clear hn hr hc h
  go_enter Try.func80, Try.ntmps80
  go_wp2_with fail
  refine C.mono ?_
  rintro e w1 ⟨rfl, hb1⟩
  have B1 : Hid (Below w.heap.size w w1) := hb1
  clear hb1 C
  go_wp2_with fail
  go_ret
  exact ⟨rfl, B1.out⟩
theorem sight_bd (lk bd : Int) (fc : Bool) (w : World) : (Instr.field 107 (.agg #[.int .i64 lk, .int .i64 bd, .bool fc]) 1).run Try.prog w = .ok (.int .i64 bd) w := by kernel_rfl
theorem sight_fc (lk bd : Int) (fc : Bool) (w : World) : (Instr.field 107 (.agg #[.int .i64 lk, .int .i64 bd, .bool fc]) 2).run Try.prog w = .ok (.bool fc) w := by kernel_rfl
/-- look, as a plain call. -/
theorem look_any (pr br : Nat) (sa : Option Addr) (n cap sk lo : Nat) (f : Nat → Cel) (t : ByteArray) (w : World) (hn : n ≤ 60) (hsz : ∀ i, i < n → (f i).c.size ≤ 256) (ht : t.size ≤ 8000) (hR : BackAt w pr br sa n cap sk lo f) (hpr : pr < w.heap.size) :
    Calls Try.prog 81 #[.pointer (some ⟨pr, 0, none⟩), .string t] w fun e W' => (∃ (lk bd : Nat) (fc : Bool), e = .returned (.agg #[.int .i64 (lk : Int), .int .i64 (bd : Int), .bool fc]) ∧ LookP n f t lk bd fc) ∧ w.grownBy W' (some br) ∧ Ready W' br sa n cap sk lo f :=
  callsIn_wide.1 (look_in 3 (Nat.le_refl _) pr br sa n cap sk lo f t w hn hsz ht hR hpr)
theorem below_back {w w1 w2 : World} {br : Nat} (hb : Below w.heap.size w w1) (hg : w1.grownBy w2 (some br)) (hl : w.heap.size ≤ br) : Below w.heap.size w w2 :=
  hb.trans ⟨hg.os, hg.tape, hg.output, hg.size, fun k hk => hg.block k (Nat.lt_of_lt_of_le hk hb.size) (fun e => by injection e with e; omega)⟩
open Classical in
set_option maxRecDepth 100000 in
set_option maxHeartbeats 2000000 in
theorem implFactor_any (sa : Option Addr) (n cap : Nat) (f : Nat → Cel) (t : ByteArray) (w : World) (hn : n ≤ maxLen) (hr : CRow w w.heap.size sa n f) (hc : ∀ i, i < n → (f i).c.size ≤ maxLen) (ht : t.size ≤ maxLen) :
    Calls Try.prog 37 #[.slice sa n cap, .string t] w fun e w' => e = .returned (.bool (decide (FactorP n f t))) ∧ Below w.heap.size w w' := by
  unfold maxLen at ht
  by_cases h8 : t.size ≤ 8000
  case neg =>
    have hti : (8000 : Int) < (t.size : Int) := by omega
    have hF : Hid (decide (FactorP n f t) = false) := decide_eq_false (fun h => h8 h.1)
    clear hr hc
    go_enter Try.func37, Try.ntmps37
    go_wp2_with fail
    go_ret
    exact ⟨by rw [hF.out]; rfl, Below.refl _ _⟩
  have hti : ¬ (8000 : Int) < (t.size : Int) := by omega
  by_cases hP : PlainP n f
  case neg =>
    have C := backRowOf_no sa n cap f w hn hr hc hP
    have hF : Hid (decide (FactorP n f t) = false) := decide_eq_false (fun h => hP h.2.1)
    clear hr hc
    go_enter Try.func37, Try.ntmps37
    go_wp2_with fail
    refine C.mono ?_
    rintro e w1 ⟨rfl, hb⟩
    have HB : Hid (Below w.heap.size w w1) := hb
    clear hb C
    go_wp2_with fail
    go_ret
    exact ⟨by rw [hF.out]; rfl, HB.out⟩
  have C := backRowOf_yes sa n cap f w hn hr hc hP
  have hD : Hid (decide (FactorP n f t) = decide (SomeS n f t t.size)) := decide_eq_decide.2 ⟨fun h => h.2.2, fun h => ⟨h8, hP, h⟩⟩
  have HP : Hid (PlainP n f) := hP
  clear hr hc hP
  go_enter Try.func37, Try.ntmps37
  go_wp2_with fail
  refine C.mono ?_
  rintro e w1 ⟨pr, br, rfl, sk, lo, hbl, hpl, hb, hba⟩
  have HB : Hid (Below w.heap.size w w1 ∧ w.heap.size ≤ br) := ⟨hb, hbl⟩
  have CL := look_any pr br sa n cap sk lo f t w1 HP.out.1.2.1 (cels_max HP.out.1) h8 hba hpl
  clear hb C hbl hpl hba
  go_wp2_with fail
  refine CL.mono ?_
  rintro e w2 ⟨⟨lk, bd, fc, rfl, hL⟩, hg, _⟩
  have HB2 : Hid (Below w.heap.size w w2) := below_back HB.out.1 hg HB.out.2
  have HF : Hid (decide (SomeS n f t t.size) = fc) := by
    show _ = _
    cases fc with
    | true => exact decide_eq_true (hL.fac.1 rfl)
    | false => exact decide_eq_false (fun h => by have := hL.fac.2 h; cases this)
  clear hg hL CL
  have hfl := sight_fc (lk : Int) (bd : Int) fc
  go_wp2_with fail
  go_ret
  exact ⟨by rw [hD.out, HF.out]; rfl, HB2.out⟩
set_option maxRecDepth 100000 in
set_option maxHeartbeats 2000000 in
theorem implBorder_any (sa : Option Addr) (n cap : Nat) (f : Nat → Cel) (t : ByteArray) (w : World) (hn : n ≤ maxLen) (hr : CRow w w.heap.size sa n f) (hc : ∀ i, i < n → (f i).c.size ≤ maxLen) (ht : t.size ≤ maxLen) :
    Calls Try.prog 40 #[.slice sa n cap, .string t] w fun e w' => (∃ b : Nat, e = .returned (.int .i64 (b : Int)) ∧ BorderN n f t b) ∧ Below w.heap.size w w' := by
  unfold maxLen at ht
  by_cases h8 : t.size ≤ 8000
  case neg =>
    have hti : (8000 : Int) < (t.size : Int) := by omega
    have hF : Hid (BorderN n f t 0) := ⟨fun h => absurd h.1 h8, fun _ => rfl⟩
    clear hr hc
    go_enter Try.func40, Try.ntmps40
    go_wp2_with fail
    go_ret
    exact ⟨⟨0, rfl, hF.out⟩, Below.refl _ _⟩
  have hti : ¬ (8000 : Int) < (t.size : Int) := by omega
  by_cases hP : PlainP n f
  case neg =>
    have C := backRowOf_no sa n cap f w hn hr hc hP
    have hF : Hid (BorderN n f t 0) := ⟨fun h => absurd h.2 hP, fun _ => rfl⟩
    clear hr hc
    go_enter Try.func40, Try.ntmps40
    go_wp2_with fail
    refine C.mono ?_
    rintro e w1 ⟨rfl, hb⟩
    have HB : Hid (Below w.heap.size w w1) := hb
    clear hb C
    go_wp2_with fail
    go_ret
    exact ⟨⟨0, rfl, hF.out⟩, HB.out⟩
  have C := backRowOf_yes sa n cap f w hn hr hc hP
  have HP : Hid (PlainP n f) := hP
  clear hr hc hP
  go_enter Try.func40, Try.ntmps40
  go_wp2_with fail
  refine C.mono ?_
  rintro e w1 ⟨pr, br, rfl, sk, lo, hbl, hpl, hb, hba⟩
  have HB : Hid (Below w.heap.size w w1 ∧ w.heap.size ≤ br) := ⟨hb, hbl⟩
  have CL := look_any pr br sa n cap sk lo f t w1 HP.out.1.2.1 (cels_max HP.out.1) h8 hba hpl
  clear hb C hbl hpl hba
  go_wp2_with fail
  refine CL.mono ?_
  rintro e w2 ⟨⟨lk, bd, fc, rfl, hL⟩, hg, _⟩
  have HB2 : Hid (Below w.heap.size w w2) := below_back HB.out.1 hg HB.out.2
  have HF : Hid (BorderN n f t bd) := ⟨fun _ => hL.bd, fun h => absurd ⟨h8, HP.out⟩ h⟩
  clear hg hL CL
  have hfl := sight_bd (lk : Int) (bd : Int) fc
  go_wp2_with fail
  go_ret
  exact ⟨⟨bd, rfl, HF.out⟩, HB2.out⟩
end Go.Proofs.Ytfeolbgenpknfaa
