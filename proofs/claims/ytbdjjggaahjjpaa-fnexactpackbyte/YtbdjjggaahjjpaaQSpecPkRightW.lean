/- What is proved here: the specification's PackRight says whether a pack is right; nothing that was there turns. -/
import Derived.Test.YtbdjjggaahjjpaaQAtPMToIntRowW
import Derived.Test.YtbdjjggaahjjpaaQPkHW
import Derived.Test.YtbdjjggaahjjpaaQSpecKRightWToIsW
import Derived.Test.YtbdjjggaahjjpaaQSpecKVecW
namespace Go.Proofs.Ytbdjjggaahjjpaa
open Go.RowKit

/-- Nothing of a pack is longer than it can be. -/
def PkSizeS (P : Pk) : Prop := P.k ≤ maxLen ∧ P.m ≤ maxLen ∧ (∀ i, i < P.k → P.n i ≤ maxLen) ∧ ∀ i, i < P.k → ∀ j, j < P.n i → (P.f i j).c.size ≤ maxLen
theorem Row.getP {w : World} {B : Nat} {sa : Option Addr} {n i : Nat} {f : Nat → Int} (h : Row w B sa n f) (hi : i < n) : ∃ bb off : Nat, sa = some ⟨bb, off, none⟩ ∧ bb < B ∧ w.cell? ⟨bb, off + i, none⟩ = some (.int .i64 (f i)) := by
  rcases h with h | ⟨bb, off, h1, h2, h3⟩
  · omega
  · exact ⟨bb, off, h1, h2, h3 i hi⟩
open Classical in
set_option maxHeartbeats 4000000 in
theorem specPackRight_any (sr sm : Option Addr) (cr cm : Nat) (P : Pk) (w : World) (hz : PkSizeS P) (hr : PkRead w sr sm P) :
    Calls Try.prog 8 #[.agg #[.slice sr P.k cr, .slice sm P.m cm, .int .i64 P.b]] w fun e w' => e = .returned (.bool (decide (PkOk P))) ∧ Below w.heap.size w w' := by
  obtain ⟨⟨s, c, hrr⟩, hra⟩ := hr
  have HB0 : Hid (Below w.heap.size w (w.alloc (.cells #[.slice sr P.k cr, .slice sm P.m cm, .int .i64 P.b] 30))) := (Below.refl _ _).alloc (Nat.le_refl _) _
  have HX0 : Hid (Box3 (w.alloc (.cells #[.slice sr P.k cr, .slice sm P.m cm, .int .i64 P.b] 30)) w.heap.size (.slice sr P.k cr) (.slice sm P.m cm) (.int .i64 P.b)) := Box3.new w _ _ _ _
  have HZ0 : Hid (w.heap.size < (w.alloc (.cells #[.slice sr P.k cr, .slice sm P.m cm, .int .i64 P.b] 30)).heap.size) := by show _ < _; simp
  have HRR : Hid (∀ W, Below w.heap.size w W → CCRows W W.heap.size sr P.k s P.n c P.f) := fun W hW => hrr.late hW
  have HRA : Hid (∀ W, Below w.heap.size w W → Row W W.heap.size sm P.m P.a) := fun W hW => (hra.kept hW).up hW.size
  have HZ : Hid (PkSizeS P) := hz
  have hk9 : P.k ≤ 2 ^ 63 - 1 := hz.1
  have hm9 : P.m ≤ 2 ^ 63 - 1 := hz.2.1
  clear hrr hra hz
  by_cases h1 : (P.k : Int) < 1
  · rw [decide_eq_false (fun h : PkOk P => by have := h.1.1; omega)]
    go_enter Try.func8, Try.ntmps8
    go_wp2_with fail
    go_ret
    exact ⟨rfl, HB0.out⟩
  by_cases h2 : (6 : Int) < (P.k : Int)
  · rw [decide_eq_false (fun h : PkOk P => by have := h.1.2.1; omega)]
    go_enter Try.func8, Try.ntmps8
    go_wp2_with fail
    go_ret
    exact ⟨rfl, HB0.out⟩
  by_cases h3 : (P.m : Int) = (P.k : Int)
  case neg =>
    rw [decide_eq_false (fun h : PkOk P => by have := h.2.1; omega)]
    go_enter Try.func8, Try.ntmps8
    go_wp2_with fail
    go_ret
    exact ⟨rfl, HB0.out⟩
  obtain ⟨D, hD⟩ : ∃ D, decide (PkOk P) = D := ⟨_, rfl⟩
  have HD : Hid (decide (PkOk P) = D) := hD
  rw [hD]
  clear hD
  have HMK : Hid (P.m = P.k) := by show _ = _; omega
  go_enter Try.func8, Try.ntmps8
  go_wp2_with fail
  generalize w.alloc (.cells #[.slice sr P.k cr, .slice sm P.m cm, .int .i64 P.b] 30) = w0 at *
  go_loopw [3, 4] (fun av iv wr => ∃ i : Nat, i ≤ P.k ∧ av = .int .i64 (atP P.n i : Int) ∧ iv = .int .i64 (i : Int) ∧ Below w.heap.size w wr ∧ Box3 wr w.heap.size (.slice sr P.k cr) (.slice sm P.m cm) (.int .i64 P.b) ∧ ∀ j, j < i → CellsOk (P.n j) (P.f j) ∧ P.a j = (atP P.n j : Int)) (fun _ iv _ => P.k - (intOf iv).toNat)
  case atStart => exact ⟨0, Nat.zero_le _, rfl, rfl, HB0.out, HX0.out, fun j hj => absurd hj (Nat.not_lt_zero _)⟩
  case round =>
    obtain ⟨i, hi, rfl, rfl, hbel, hx, hall⟩ := hrel
    have HB : Hid (Below w.heap.size w wr) := hbel
    have HX : Hid (Box3 wr w.heap.size (.slice sr P.k cr) (.slice sm P.m cm) (.int .i64 P.b)) := hx
    have HA : Hid (∀ j, j < i → CellsOk (P.n j) (P.f j) ∧ P.a j = (atP P.n j : Int)) := hall
    have hat : atP P.n i ≤ 61 * i := atP_le (fun j hj => (hall j hj).1.2.1) i (Nat.le_refl _)
    clear hbel hx hall
    obtain ⟨q, hq⟩ : ∃ q, atP P.n i = q := ⟨_, rfl⟩
    have HQ : Hid (atP P.n i = q) := hq
    rw [hq] at hat ⊢
    clear hq
    obtain ⟨a0, a1, a2, _, _, _⟩ := HX.out.all
    by_cases hil : i < P.k
    · have hii : (i : Int) < (P.k : Int) := by omega
      have him : (i : Int) < (P.m : Int) := by omega
      have hi0 : (0 : Int) ≤ (i : Int) := by omega
      obtain ⟨bb, off, rfl, hbb, ci, hrow⟩ := (HRR.out wr HB.out).at hil
      obtain ⟨ba, oa, rfl, hba, di⟩ := (HRA.out wr HB.out).getP (i := i) (by omega)
      have C := specKRight_any (s i) (P.n i) (c i) (P.f i) wr (HZ.out.2.2.1 i hil) hrow (HZ.out.2.2.2 i hil)
      clear hrow
      by_cases hok : CellsOk (P.n i) (P.f i)
      · rw [decide_eq_true hok] at C
        have hn60 := hok.2.1
        have HOK : Hid (CellsOk (P.n i) (P.f i)) := hok
        have HAS : Hid (atP P.n (i + 1) = atP P.n i + (P.n i + 1)) := atP_succ P.n i
        clear hok
        obtain ⟨si, hsi⟩ : ∃ x, s i = x := ⟨_, rfl⟩
        obtain ⟨c9, hc9⟩ : ∃ x, c i = x := ⟨_, rfl⟩
        obtain ⟨ni, hni⟩ : ∃ x, P.n i = x := ⟨_, rfl⟩
        obtain ⟨ai, hai⟩ : ∃ x, P.a i = x := ⟨_, rfl⟩
        have HE : Hid (P.n i = ni ∧ P.a i = ai) := ⟨hni, hai⟩
        rw [hsi, hni, hc9] at ci
        rw [hsi, hni, hc9] at C
        rw [hni] at hn60
        rw [hai] at di
        clear hsi hni hc9 hai
        go_wp2_with fail
        refine C.mono ?_
        rintro e w1 ⟨rfl, hb⟩
        have B1 : Hid (Below w.heap.size w w1) := HB.out.trans (hb.mono HB.out.size)
        have hw9 : w.heap.size < wr.heap.size := HX.out.lt
        have X1 : Hid (Box3 w1 w.heap.size (.slice (some ⟨bb, off, none⟩) P.k cr) (.slice (some ⟨ba, oa, none⟩) P.m cm) (.int .i64 P.b)) := HX.out.kept hb hw9
        have ci1 : w1.cell? ⟨bb, off + i, none⟩ = some (.slice si ni c9) := by rw [hb.cell (p := ⟨bb, off + i, none⟩) hbb]; exact ci
        have di1 : w1.cell? ⟨ba, oa + i, none⟩ = some (.int .i64 ai) := by rw [hb.cell (p := ⟨ba, oa + i, none⟩) hba]; exact di
        clear C hb ci di a0 a1 a2 hw9
        obtain ⟨a0, a1, a2, _, _, _⟩ := X1.out.all
        by_cases haq : ai = (q : Int)
        · subst haq
          go_wp2_with fail
          refine (bits_spec _ _ _ _ hn60).mono ?_
          rintro e w2 ⟨rfl, rfl⟩
          go_wp2_with fail
          go_roundw
          case rel => exact ⟨i + 1, by omega, by have h1 := HAS.out; have h2 := HQ.out; have h3 := HE.out.1; (congr 1; omega), by go_num, B1.out, X1.out, fun j hj => by
            by_cases e : j = i
            · subst e; exact ⟨HOK.out, by rw [HE.out.2, HQ.out]⟩
            · exact HA.out j (by omega)⟩
          case measure => simp [intOf]; omega
        · obtain rfl : D = false := by rw [← HD.out]; exact decide_eq_false (fun h => haq (by rw [← HE.out.2, ← HQ.out]; exact h.2.2.1 i hil))
          go_wp2_with fail
          go_ret
          exact ⟨rfl, B1.out⟩
      · rw [decide_eq_false hok] at C
        obtain rfl : D = false := by rw [← HD.out]; exact decide_eq_false (fun h => hok (h.1.2.2 i hil))
        clear hok
        generalize s i = si at *
        generalize c i = c9 at *
        generalize P.n i = ni at *
        go_wp2_with fail
        refine C.mono ?_
        rintro e w1 ⟨rfl, hb⟩
        have B1 : Hid (Below w.heap.size w w1) := HB.out.trans (hb.mono HB.out.size)
        clear C hb
        go_wp2_with fail
        go_ret
        exact ⟨rfl, B1.out⟩
    · have hii : ¬ (i : Int) < (P.k : Int) := by omega
      obtain rfl : i = P.k := by omega
      have hdd : D = (decide ((q : Int) = P.b) && decide ((q : Int) ≤ 320)) := by
        rw [← HD.out, Bool.eq_iff_iff]
        simp only [Bool.and_eq_true, decide_eq_true_eq]
        unfold PkOk
        rw [HQ.out]
        constructor
        · rintro ⟨_, _, _, h4, h5⟩
          exact ⟨h4.symm, by omega⟩
        · rintro ⟨h4, h5⟩
          exact ⟨⟨by omega, by omega, fun i hi => (HA.out i hi).1⟩, HMK.out, fun i hi => (HA.out i hi).2, h4.symm, by omega⟩
      clear HD
      subst hdd
      by_cases hb9 : (q : Int) = P.b
      · go_wp2_with fail
        go_ret
        exact ⟨by simp, HB.out⟩
      · go_wp2_with fail
        go_ret
        exact ⟨by simp, HB.out⟩
end Go.Proofs.Ytbdjjggaahjjpaa
