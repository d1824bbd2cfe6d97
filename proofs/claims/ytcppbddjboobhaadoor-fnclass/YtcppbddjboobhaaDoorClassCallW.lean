/- What is proved here: each function over classes, the program's and the specification's, hands back what the document says, in whatever later world it is called. -/
import Derived.Test.YtcppbddjboobhaaDoorClassFunM
import Derived.Test.YtcppbddjboobhaaDoorSpecCOfW
import Derived.Test.YtcppbddjboobhaaDoorSpecCSpanW
import Derived.Test.YtcppbddjboobhaaDoorSpecCOrW
import Derived.Test.YtcppbddjboobhaaDoorSpecCAndW
import Derived.Test.YtcppbddjboobhaaDoorSpecCNotW
import Derived.Test.YtcppbddjboobhaaDoorSpecCFoldW
import Derived.Test.YtcppbddjboobhaaDoorSpecCHasW
import Derived.Test.YtcppbddjboobhaaDoorImplCRightW
import Derived.Test.YtcppbddjboobhaaDoorImplCHasW
import Derived.Test.YtcppbddjboobhaaDoorImplCOfW
import Derived.Test.YtcppbddjboobhaaDoorImplCSpanW
import Derived.Test.YtcppbddjboobhaaDoorSetOrW
import Derived.Test.YtcppbddjboobhaaDoorSetAndW
import Derived.Test.YtcppbddjboobhaaDoorSetNotW
import Derived.Test.YtcppbddjboobhaaDoorImplCFoldW
namespace Go.Proofs.YtcppbddjboobhaaDoor
open Go.RowKit

/-- A later world: what was there is as it was, and the library's table lies. -/
structure Late (w W : World) : Prop where
  below : Below w.heap.size w W
  tab : Tab64 W
  lt : 2 < W.heap.size
theorem Late.step {w W W' : World} (h : Late w W) (hb : Below W.heap.size W W') : Late w W' :=
  ⟨h.below.trans (hb.mono h.below.size), h.tab.kept hb h.lt, Nat.lt_of_lt_of_le h.lt hb.size⟩
/-- In whatever later world a call hands v back. -/
def Gives (w : World) (f : Nat) (args : Array Value) (v : Value) : Prop := ∀ W, Late w W → Calls Tryd.prog f args W fun e w' => e = .returned v ∧ Late w w'
theorem gives_of {w : World} {f : Nat} {args : Array Value} {v : Value} (h : ∀ W, Tab64 W → 2 < W.heap.size → Calls Tryd.prog f args W fun e w' => e = .returned v ∧ Below W.heap.size W w') : Gives w f args v :=
  fun W hL => (h W hL.tab hL.lt).mono fun _ _ h2 => ⟨h2.1, hL.step h2.2⟩
theorem gives_same {w : World} {f : Nat} {args : Array Value} {v : Value} (h : ∀ W, Calls Tryd.prog f args W fun e w' => e = .returned v ∧ w' = W) : Gives w f args v :=
  fun W hL => (h W).mono fun _ _ h2 => ⟨h2.1, by rw [h2.2]; exact hL⟩
section
variable {O A : ByteArray → ByteArray → ByteArray} {N F : ByteArray → ByteArray} {H : ByteArray → Int → Bool} {R : ByteArray → Bool}
theorem big {t : ByteArray} (h : t.size ≤ 256) : t.size ≤ maxLen := by unfold maxLen; omega
theorem Alg.implOr (g : Alg O A N F H R) (w : World) {a b : ByteArray} (ha : a.size ≤ 256) (hb : b.size ≤ 256) : Gives w 50 #[.string a, .string b] (.string (O a b)) := by
  by_cases h : RightC a ∧ RightC b
  · rw [g.o1 a b h.1 h.2]
    exact gives_of fun W h1 h2 => implCOr_yes a b W (big ha) (big hb) h.1 h.2 h1 h2
  · rw [g.o2 a b h]
    exact gives_of fun W _ _ => implCOr_no a b W (big ha) (big hb) h
theorem Alg.specOr (g : Alg O A N F H R) (w : World) {a b : ByteArray} (ha : a.size ≤ 256) (hb : b.size ≤ 256) : Gives w 56 #[.string a, .string b] (.string (O a b)) := by
  by_cases h : RightC a ∧ RightC b
  · rw [g.o1 a b h.1 h.2]
    exact gives_of fun W _ _ => specCOr_yes a b W (by omega) (by omega) h.1 h.2
  · rw [g.o2 a b h]
    exact gives_of fun W _ _ => specCOr_no a b W (big ha) (big hb) h
theorem Alg.implAnd (g : Alg O A N F H R) (w : World) {a b : ByteArray} (ha : a.size ≤ 256) (hb : b.size ≤ 256) : Gives w 51 #[.string a, .string b] (.string (A a b)) := by
  by_cases h : RightC a ∧ RightC b
  · rw [g.a1 a b h.1 h.2]
    exact gives_of fun W h1 h2 => implCAnd_yes a b W (big ha) (big hb) h.1 h.2 h1 h2
  · rw [g.a2 a b h]
    exact gives_of fun W _ _ => implCAnd_no a b W (big ha) (big hb) h
theorem Alg.specAnd (g : Alg O A N F H R) (w : World) {a b : ByteArray} (ha : a.size ≤ 256) (hb : b.size ≤ 256) : Gives w 57 #[.string a, .string b] (.string (A a b)) := by
  by_cases h : RightC a ∧ RightC b
  · rw [g.a1 a b h.1 h.2]
    exact gives_of fun W _ _ => specCAnd_yes a b W (big ha) (big hb) h.1 h.2
  · rw [g.a2 a b h]
    exact gives_of fun W _ _ => specCAnd_no a b W (big ha) (big hb) h
theorem Alg.implNot (g : Alg O A N F H R) (w : World) {a : ByteArray} (ha : a.size ≤ 256) : Gives w 52 #[.string a] (.string (N a)) := by
  by_cases h : RightC a
  · rw [g.n1 a h]
    exact gives_of fun W h1 h2 => implCNot_yes a W (big ha) h h1 h2
  · rw [g.n2 a h]
    exact gives_of fun W _ _ => implCNot_no a W (big ha) h
theorem Alg.specNot (g : Alg O A N F H R) (w : World) {a : ByteArray} (ha : a.size ≤ 256) : Gives w 58 #[.string a] (.string (N a)) := by
  by_cases h : RightC a
  · rw [g.n1 a h]
    exact gives_of fun W _ _ => specCNot_yes a W (big ha) h
  · rw [g.n2 a h]
    exact gives_of fun W _ _ => specCNot_no a W (big ha) h
theorem Alg.implFold (g : Alg O A N F H R) (w : World) {a : ByteArray} (ha : a.size ≤ 256) : Gives w 55 #[.string a] (.string (F a)) := by
  by_cases h : RightC a
  · rw [g.f1 a h]
    exact gives_of fun W h1 h2 => implCFold_yes a W (big ha) h h1 h2
  · rw [g.f2 a h]
    exact gives_of fun W _ _ => implCFold_no a W (big ha) h
theorem Alg.specFold (g : Alg O A N F H R) (w : World) {a : ByteArray} (ha : a.size ≤ 256) : Gives w 61 #[.string a] (.string (F a)) := by
  by_cases h : RightC a
  · rw [g.f1 a h]
    exact gives_of fun W _ _ => specCFold_yes a W (big ha) h
  · rw [g.f2 a h]
    exact gives_of fun W _ _ => specCFold_no a W (big ha) h
open Classical in
theorem Alg.hasEq (g : Alg O A N F H R) (c : ByteArray) (b : Int) : decide (HasC c b) = H c b := by
  apply bool_of_iff
  rw [g.h1, decide_eq_true_iff]
  exact Iff.rfl
open Classical in
theorem Alg.rightEq (g : Alg O A N F H R) (c : ByteArray) : decide (RightC c) = R c := by
  apply bool_of_iff
  rw [g.r1, decide_eq_true_iff]
theorem Alg.implHas (g : Alg O A N F H R) (w : World) {c : ByteArray} (hc : c.size ≤ 256) (b : Int) : Gives w 64 #[.string c, .int .i64 b] (.bool (H c b)) := by
  rw [← g.hasEq]
  exact gives_of fun W _ _ => implCHas_any c b W (big hc)
theorem Alg.specHas (g : Alg O A N F H R) (w : World) {c : ByteArray} (hc : c.size ≤ 256) (b : Int) : Gives w 65 #[.string c, .int .i64 b] (.bool (H c b)) := by
  rw [← g.hasEq]
  exact gives_of fun W _ _ => specCHas_any c b W (big hc)
theorem Alg.implRight (g : Alg O A N F H R) (w : World) {c : ByteArray} (hc : c.size ≤ 256) : Gives w 62 #[.string c] (.bool (R c)) := by
  rw [← g.rightEq]
  exact gives_of fun W _ _ => implRightC_any c W (big hc)
theorem Alg.specRight (g : Alg O A N F H R) (w : World) {c : ByteArray} (hc : c.size ≤ 256) : Gives w 63 #[.string c] (.bool (R c)) := by
  rw [← g.rightEq]
  exact gives_of fun W _ _ => specRightC_any c W (big hc)
end
theorem of_both (w : World) {t : ByteArray} (ht : t.size ≤ 8) : Gives w 53 #[.string t] (.string (classT (hasByte t))) ∧ Gives w 59 #[.string t] (.string (classT (hasByte t))) :=
  ⟨gives_of fun W h1 h2 => implCOf_yes t W (by omega) h1 h2, gives_of fun W _ _ => specCOf_yes t W (by omega)⟩
theorem span_both (w : World) (x y : Int) : ∃ s : ByteArray, Gives w 54 #[.int .i64 x, .int .i64 y] (.string s) ∧ Gives w 60 #[.int .i64 x, .int .i64 y] (.string s) := by
  by_cases h : 0 ≤ x ∧ x ≤ 255 ∧ 0 ≤ y ∧ y ≤ 255
  · exact ⟨_, gives_of fun W h1 h2 => implCSpan_yes x y W h.1 h.2.1 h.2.2.1 h.2.2.2 h1 h2, gives_of fun W _ _ => specCSpan_yes x y W h.1 h.2.1 h.2.2.1 h.2.2.2⟩
  · exact ⟨_, gives_same fun W => implCSpan_no x y W h, gives_of fun W _ _ => specCSpan_no x y W h⟩
end Go.Proofs.YtcppbddjboobhaaDoor
