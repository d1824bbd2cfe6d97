/- What is proved here: the specification's l10Lay lays a vector's bits at a place of another; nothing else turns. -/
import Derived.Test.YtbdjjggaahjjpaaQLaidMToEqualW
import Derived.Test.YtbdjjggaahjjpaaQWordsWToL02SetW
import Derived.Test.YtbdjjggaahjjpaaQGetBWToSetM
import Derived.Test.YtbdjjggaahjjpaaQVecEqWToBoxAtM
import Derived.Deep.RegionHeld3
namespace Go.Proofs.Ytbdjjggaahjjpaa
open Go.RowKit

theorem getB_bitL {f : Nat → Int} {P : Nat → Bool} {m k q : Nat} (h : VecIs f P m) (hk : k < m) (hq : q < 32) : getB (f k) q = P (32 * k + q) := by
  obtain ⟨a, e, h1, h2⟩ := h k hk
  rw [e, getB_nat a q h1]
  exact h2 q hq
/-- A bit is set as is told, where none was on. -/
theorem VecIs.setTo {f : Nat → Int} {P : Nat → Bool} {m k q : Nat} (h : VecIs f P m) (hk : k < m) (hq : q < 32) (on : Bool) (hP : P (32 * k + q) = false) : VecIs (setF f k q on) (fun j => P j || (decide (32 * k + q = j) && on)) m := by
  cases on with
  | true => exact (h.set hk hq).congr (fun j => by simp)
  | false =>
    have e : ∀ i, setF f k q false i = f i := fun i => by
      unfold setF
      rw [getB_bitL h hk hq, hP, if_pos rfl]
      split
      · rename_i e; rw [e]
      · rfl
    have e2 : setF f k q false = f := funext e
    rw [e2]
    exact h.congr (fun j => by simp)
/-- The bits that are laid so far. -/
def layB (P R : Nat → Bool) (at0 i : Nat) : Nat → Bool := fun j => P j || (decide (at0 ≤ j ∧ j < at0 + i) && R (j - at0))
theorem layB_zero (P R : Nat → Bool) (at0 : Nat) : ∀ j, layB P R at0 0 j = P j := fun j => by
  unfold layB
  rw [decide_eq_false (by omega)]
  simp
theorem layB_step (P R : Nat → Bool) (at0 i : Nat) : ∀ j, layB P R at0 (i + 1) j = (layB P R at0 i j || (decide (at0 + i = j) && R i)) := fun j => by
  unfold layB
  by_cases e : at0 + i = j
  · subst e
    rw [decide_eq_true (show at0 ≤ at0 + i ∧ at0 + i < at0 + (i + 1) by omega), decide_eq_false (show ¬ (at0 ≤ at0 + i ∧ at0 + i < at0 + i) by omega), decide_eq_true rfl, show at0 + i - at0 = i by omega]
    simp
  · rw [decide_eq_false e, Bool.false_and, Bool.or_false]
    congr 2
    rw [decide_eq_decide]
    omega
theorem layB_next {B : Nat → Nat} {R : Nat → Nat → Bool} {i : Nat} (hR : ∀ q, R i q = true → q < B i) : ∀ j, layB (layK B R i) (R i) (bitsTo B i) (B i) j = layK B R (i + 1) j := fun j => by
  unfold layB
  show _ = (layK B R i j || (decide (bitsTo B i ≤ j) && R i (j - bitsTo B i)))
  congr 1
  cases h : R i (j - bitsTo B i) with
  | false => rw [Bool.and_false, Bool.and_false]
  | true =>
    have := hR _ h
    rw [Bool.and_true, Bool.and_true, decide_eq_decide]
    omega
theorem layK_end {B : Nat → Nat} {R : Nat → Nat → Bool} {k : Nat} (hR : ∀ i, i < k → ∀ q, R i q = true → q < B i) : ∀ i, i ≤ k → ∀ j, bitsTo B i ≤ j → layK B R i j = false
  | 0, _, j, _ => rfl
  | i + 1, hi, j, hj => by
    have h1 : bitsTo B (i + 1) = bitsTo B i + B i := rfl
    show (layK B R i j || (decide (bitsTo B i ≤ j) && R i (j - bitsTo B i))) = false
    rw [layK_end hR i (by omega) j (by omega), Bool.false_or]
    cases h : R i (j - bitsTo B i) with
    | false => simp
    | true =>
      have := hR i (by omega) _ h
      omega
theorem boxed_grownT {W W' : World} {b p : Nat} {arr : Array Value} {t : TypeId} (h : BoxAt W p arr t) (hg : W.grownBy W' (some b)) (hne : p ≠ b) : BoxAt W' p arr t := by
  unfold BoxAt
  rw [hg.block p h.lt (fun e => hne (by injection e))]
  exact h
set_option maxRecDepth 100000 in
set_option maxHeartbeats 4000000 in
theorem l10Lay_any (b : Int) (g M cap at0 bx m cx : Nat) (sx : Option Addr) (G X : Nat → Int) (P R : Nat → Bool) (w : World) (hM : M ≤ 10) (hm : m = (bx + 31) / 32) (hfit : at0 + bx ≤ 32 * M) (hG : Own w g M G) (hX : Row w w.heap.size sx m X) (hne : ∀ bb off : Nat, sx = some ⟨bb, off, none⟩ → bb ≠ g) (hP : VecIs G P M) (hR : VecIs X R m) (hend : ∀ j, at0 ≤ j → P j = false) :
    Calls Try.prog 52 #[.agg #[.int .i64 b, .slice (some ⟨g, 0, none⟩) M cap], .int .i64 (at0 : Int), .agg #[.int .i64 (bx : Int), .slice sx m cx]] w fun e w' => e = .returned (.tuple #[]) ∧ w.grownBy w' (some g) ∧ ∃ G', Own w' g M G' ∧ VecIs G' (layB P R at0 bx) M := by
  have HX : Hid (Row w w.heap.size sx m X) := hX
  have HG0 : Hid (Own w g M G) := hG
  have HP0 : Hid (VecIs G P M) := hP
  have HR : Hid (VecIs X R m) := hR
  have HNE : Hid (∀ bb off : Nat, sx = some ⟨bb, off, none⟩ → bb ≠ g) := hne
  have HEND : Hid (∀ j, at0 ≤ j → P j = false) := hend
  have HU0 : Hid (BoxAt ((w.alloc (.cells #[.int .i64 b, .slice (some ⟨g, 0, none⟩) M cap] 36)).alloc (.cells #[.int .i64 (bx : Int), .slice sx m cx] 36)) w.heap.size #[.int .i64 b, .slice (some ⟨g, 0, none⟩) M cap] 36) := (boxAt_new w _ _).2.1.kept (boxAt_new _ _ _).1
  have HV0 : Hid (BoxAt ((w.alloc (.cells #[.int .i64 b, .slice (some ⟨g, 0, none⟩) M cap] 36)).alloc (.cells #[.int .i64 (bx : Int), .slice sx m cx] 36)) (w.heap.size + 1) #[.int .i64 (bx : Int), .slice sx m cx] 36) := by
    have h := (boxAt_new (w.alloc (.cells #[.int .i64 b, .slice (some ⟨g, 0, none⟩) M cap] 36)) #[.int .i64 (bx : Int), .slice sx m cx] 36).2.1
    exact (by simpa using h : BoxAt _ _ _ _)
  have hgl := hG.1
  have HGR0 : Hid (w.grownBy ((w.alloc (.cells #[.int .i64 b, .slice (some ⟨g, 0, none⟩) M cap] 36)).alloc (.cells #[.int .i64 (bx : Int), .slice sx m cx] 36)) (some g)) := (World.grownBy_alloc _ _ _).trans (World.grownBy_alloc _ _ _)
  have hb0 : Below w.heap.size w ((w.alloc (.cells #[.int .i64 b, .slice (some ⟨g, 0, none⟩) M cap] 36)).alloc (.cells #[.int .i64 (bx : Int), .slice sx m cx] 36)) := ((Below.refl _ _).alloc (Nat.le_refl _) _).alloc (by simp) _
  have HO0 : Hid (Own ((w.alloc (.cells #[.int .i64 b, .slice (some ⟨g, 0, none⟩) M cap] 36)).alloc (.cells #[.int .i64 (bx : Int), .slice sx m cx] 36)) g M G) := hG.kept hb0 hgl
  have HM : Hid (m = (bx + 31) / 32) := hm
  clear hG hX hne hP hR hend hb0 hm
  go_enter Try.func52, Try.ntmps52
  go_wp2_with fail
  generalize (w.alloc (.cells #[.int .i64 b, .slice (some ⟨g, 0, none⟩) M cap] 36)).alloc (.cells #[.int .i64 (bx : Int), .slice sx m cx] 36) = w0 at *
  go_loopw [6] (fun iv wr => ∃ (i : Nat) (F : Nat → Int), i ≤ bx ∧ iv = .int .i64 (i : Int) ∧ w.grownBy wr (some g) ∧ BoxAt wr w.heap.size #[.int .i64 b, .slice (some ⟨g, 0, none⟩) M cap] 36 ∧ BoxAt wr (w.heap.size + 1) #[.int .i64 (bx : Int), .slice sx m cx] 36 ∧ Own wr g M F ∧ VecIs F (layB P R at0 i) M) (fun iv _ => bx - (intOf iv).toNat)
  case atStart => exact ⟨0, G, Nat.zero_le _, rfl, HGR0.out, HU0.out, HV0.out, HO0.out, HP0.out.congr (fun j => (layB_zero P R at0 j).symm)⟩
  case round =>
    obtain ⟨i, F, hib, rfl, hgr, hu, hv, hO, hV⟩ := hrel
    have HGR : Hid (w.grownBy wr (some g)) := hgr
    have HU : Hid (BoxAt wr w.heap.size #[.int .i64 b, .slice (some ⟨g, 0, none⟩) M cap] 36) := hu
    have HV : Hid (BoxAt wr (w.heap.size + 1) #[.int .i64 (bx : Int), .slice sx m cx] 36) := hv
    have HO : Hid (Own wr g M F) := hO
    have HVI : Hid (VecIs F (layB P R at0 i) M) := hV
    have u0 := hu.cell 0 _ rfl
    have u1 := hu.cell 1 _ rfl
    have v0 := hv.cell 0 _ rfl
    have v1 := hv.cell 1 _ rfl
    by_cases hil : i < bx
    · have hii : (i : Int) < (bx : Int) := by omega
      have hi0 : (0 : Int) ≤ (i : Int) := by omega
      have hrowr : Row wr wr.heap.size sx m X := by
        rcases HX.out with h | ⟨bb, off, h1, h2, h3⟩
        · exact Or.inl h
        · refine Or.inr ⟨bb, off, h1, Nat.lt_of_lt_of_le h2 hgr.size, fun q hq => ?_⟩
          have h9 := hgr.block bb h2 (fun e => HNE.out bb off h1 (by injection e with e))
          have h8 := h3 q hq
          simpa [World.cell?, h9] using h8
      have CG : Hid (Calls Try.prog 81 #[.agg #[.int .i64 (bx : Int), .slice sx m cx], .int .i64 (i : Int)] wr.drew fun e w' => e = .returned (.bool (R i)) ∧ Below wr.drew.heap.size wr.drew w') := by
        have h := l02Get_any (bx : Int) sx m cx (i / 32) (i % 32) X (i : Int) wr.drew (by have := HM.out; omega) ((hrowr.kept (Below.refl _ _).drew).up (Nat.le_refl _)) hi0 (by omega) (by omega) (by have := HM.out; omega)
        rw [getB_bitL HR.out (by have := HM.out; omega) (Nat.mod_lt _ (by decide)), show 32 * (i / 32) + i % 32 = i by omega] at h
        exact h
      have hfalse : layB P R at0 i (at0 + i) = false := by
        unfold layB
        rw [HEND.out (at0 + i) (by omega), decide_eq_false (by omega)]
        rfl
      have CS : Hid (∀ W, Own W g M F → Calls Try.prog 80 #[.agg #[.int .i64 b, .slice (some ⟨g, 0, none⟩) M cap], .int .i64 ((at0 : Int) + (i : Int)), .bool (R i)] W fun e w' => e = .returned (.tuple #[]) ∧ W.grownBy w' (some g) ∧ ∃ F', Own w' g M F' ∧ VecIs F' (layB P R at0 (i + 1)) M) := fun W hW => by
        have h := l02Set_any b g M cap ((at0 + i) / 32) ((at0 + i) % 32) F ((at0 : Int) + (i : Int)) (R i) W (by omega) hW (by omega) (by omega) (by omega) (by omega) (Nat.mod_lt _ (by decide))
        refine h.mono ?_
        rintro e w' ⟨rfl, h2, h3⟩
        refine ⟨rfl, h2, _, h3, (HVI.out.setTo (by omega) (Nat.mod_lt _ (by decide)) (R i) (by rw [show 32 * ((at0 + i) / 32) + (at0 + i) % 32 = at0 + i by omega]; exact hfalse)).congr (fun j => ?_)⟩
        rw [layB_step, show 32 * ((at0 + i) / 32) + (at0 + i) % 32 = at0 + i by omega]
      have hsum : IntKind.i64.wrap ((at0 : Int) + (i : Int)) = (at0 : Int) + (i : Int) := by rw [IntKind.wrap_i64]; omega
      have hwg1 : w.heap.size ≠ g := by omega
      have hwg2 : w.heap.size + 1 ≠ g := by omega
      have hol := hO.1
      clear hgr hu hv hO hV hrowr hfalse
      go_wp2_with fail
      go_region_held3 (fun W => W.cell? ⟨w.heap.size, 0, none⟩ = some (.int .i64 b) ∧ W.cell? ⟨w.heap.size, 1, none⟩ = some (.slice (some ⟨g, 0, none⟩) M cap) ∧ W.cell? ⟨w.heap.size + 1, 0, none⟩ = some (.int .i64 (bx : Int)) ∧ W.cell? ⟨w.heap.size + 1, 1, none⟩ = some (.slice sx m cx)) (go_keep) (first
        | (go_at_call 81; refine CG.out.mono ?_; rintro e w5 ⟨rfl, hb5⟩; have B5 : Hid (Below wr.heap.size wr w5) := ((Below.refl wr.heap.size wr).drew).trans hb5; have U5 : Hid (BoxAt w5 w.heap.size #[.int .i64 b, .slice (some ⟨g, 0, none⟩) M cap] 36) := HU.out.kept B5.out; have V5 : Hid (BoxAt w5 (w.heap.size + 1) #[.int .i64 (bx : Int), .slice sx m cx] 36) := HV.out.kept B5.out; have O5 : Hid (Own w5 g M F) := HO.out.kept B5.out hol; have y0 := U5.out.cell 0 _ rfl; have y1 := U5.out.cell 1 _ rfl; have y2 := V5.out.cell 0 _ rfl; have y3 := V5.out.cell 1 _ rfl; clear hb5)
        | (go_at_call 80; refine (CS.out _ O5.out).mono ?_; rintro e w6 ⟨rfl, hgr6, F6, hO6, hV6⟩; have G6 : Hid (w5.grownBy w6 (some g)) := hgr6; have U6 : Hid (BoxAt w6 w.heap.size #[.int .i64 b, .slice (some ⟨g, 0, none⟩) M cap] 36) := boxed_grownT U5.out hgr6 hwg1; have V6 : Hid (BoxAt w6 (w.heap.size + 1) #[.int .i64 (bx : Int), .slice sx m cx] 36) := boxed_grownT V5.out hgr6 hwg2; have O6 : Hid (Own w6 g M F6 ∧ VecIs F6 (layB P R at0 (i + 1)) M) := ⟨hO6, hV6⟩; have z0 := U6.out.cell 0 _ rfl; have z1 := U6.out.cell 1 _ rfl; have z2 := V6.out.cell 0 _ rfl; have z3 := V6.out.cell 1 _ rfl; clear hgr6 hO6 hV6))
      clear y0 y1 y2 y3 z0 z1 z2 z3
      go_wp2_with fail
      go_roundw
      case rel => exact ⟨i + 1, F6, by omega, by go_num, HGR.out.trans ((⟨B5.out.os, B5.out.tape, B5.out.output, B5.out.size, fun k hk _ => B5.out.block k hk⟩ : wr.grownBy w5 (some g)).trans G6.out), U6.out, V6.out, O6.out.1, O6.out.2⟩
      case measure => simp [intOf]; omega
    · have hii : ¬ (i : Int) < (bx : Int) := by omega
      obtain rfl : i = bx := by omega
      clear hgr hu hv hO hV
      go_wp2_with fail
      go_end0
      exact ⟨rfl, HGR.out, F, HO.out, HVI.out⟩
end Go.Proofs.Ytbdjjggaahjjpaa
