/- What is proved here: the functions over vectors, in whatever later world they are called. -/
import Derived.Test.YthnnenbpbkmbhaaDoorQVvW
namespace Go.Proofs.YthnnenbpbkmbhaaDoor
open Go.RowKit

/-- A later world, with the library's table. -/
structure LateV (w W : World) : Prop where
  below : Below w.heap.size w W
  tab : Tab W
  lt : 0 < W.heap.size
theorem LateV.step {w W W' : World} (h : LateV w W) (hb : Below W.heap.size W W') : LateV w W' :=
  ⟨h.below.trans (hb.mono h.below.size), h.tab.kept hb h.lt, Nat.lt_of_lt_of_le h.lt hb.size⟩
theorem LateV.drew {w W : World} (h : LateV w W) : LateV w W.drew := ⟨h.below.drew, h.tab, h.lt⟩
/-- A vector that stays. -/
def Sits (w : World) (a : Vv) : Prop := ∀ W, LateV w W → RowV W a
theorem sits_of {w : World} {a : Vv} (h : RowV w a) : Sits w a := fun _ hL => h.kept hL.below
/-- In whatever later world a call hands a new vector back. -/
def GivesV (w : World) (F : Nat) (args : Array Value) (rb : Int) (rn : Nat) (rf : Nat → Int) : Prop :=
  ∀ W, LateV w W → Calls Tryd.prog F args W fun e w' => ∃ so co, e = .returned (.agg #[.int .i64 rb, .slice so rn co]) ∧ LateV w w' ∧ Below W.heap.size W w' ∧ Row w' w'.heap.size so rn rf
/-- In whatever later world a call hands v back. -/
def GivesR (w : World) (F : Nat) (args : Array Value) (v : Value) : Prop :=
  ∀ W, LateV w W → Calls Tryd.prog F args W fun e w' => e = .returned v ∧ LateV w w' ∧ Below W.heap.size W w'
theorem givesV_of {w : World} {F : Nat} {args : Array Value} {rb : Int} {rn : Nat} {rf : Nat → Int} (h : ∀ W, LateV w W → Calls Tryd.prog F args W fun e w' => NewVec W rb rn rf e w') : GivesV w F args rb rn rf :=
  fun W hL => (h W hL).mono fun _ _ ⟨so, co, he, hb, ho⟩ => ⟨so, co, he, hL.step hb, hb, ho.row⟩
theorem givesR_of {w : World} {F : Nat} {args : Array Value} {v : Value} (h : ∀ W, LateV w W → Calls Tryd.prog F args W fun e w' => e = .returned v ∧ Below W.heap.size W w') : GivesR w F args v :=
  fun W hL => (h W hL).mono fun _ _ h2 => ⟨h2.1, hL.step h2.2, h2.2⟩
theorem Two.late {w : World} {F : Nat} {a b : Vv} {rb : Int} {rn : Nat} {rf : Nat → Int} (h : Two F a b rb rn rf) (ha : Sits w a) (hb : Sits w b) : GivesV w F #[.agg #[.int .i64 a.b, .slice a.s a.n a.c], .agg #[.int .i64 b.b, .slice b.s b.n b.c]] rb rn rf := givesV_of fun W hL => h W (ha W hL) (hb W hL)
theorem One.late {w : World} {F : Nat} {a : Vv} {rb : Int} {rn : Nat} {rf : Nat → Int} (h : One F a rb rn rf) (ha : Sits w a) : GivesV w F #[.agg #[.int .i64 a.b, .slice a.s a.n a.c]] rb rn rf := givesV_of fun W hL => h W (ha W hL)
theorem lw_late {w W : World} {b : Int} {sa sb : Option Addr} {n ca cb : Nat} {f : Nat → Int} (hL : LateV w W) (hn : n ≤ 1048576) (h1 : Row W W.heap.size sa n f) (h2 : Row W W.heap.size sb n f) :
    Calls Tryd.prog 14 #[.agg #[.int .i64 b, .slice sa n ca], .agg #[.int .i64 b, .slice sb n cb]] W fun e w' => e = .returned (.bool true) ∧ LateV w w' ∧ Below W.heap.size W w' :=
  (lwVec_same b sa sb n ca cb f W hn h1 h2).mono fun _ _ h => ⟨h.1, hL.step h.2, h.2⟩
theorem low_both {w : World} {a : Vv} (ha : Sits w a) : ∃ r : Int, GivesR w 26 #[.agg #[.int .i64 a.b, .slice a.s a.n a.c]] (.int .i64 r) ∧ GivesR w 27 #[.agg #[.int .i64 a.b, .slice a.s a.n a.c]] (.int .i64 r) := by
  obtain ⟨L, hL⟩ := come_some a.b a.n a.f
  exact ⟨_, givesR_of fun W h => callsIn_wide.1 (low_in 3 (by decide) a.b a.s a.n a.c a.f L hL W (ha W h).1 (ha W h).2 h.tab h.lt), givesR_of fun W h => specLow_any a.b a.s a.n a.c a.f L hL W (ha W h).1 (ha W h).2⟩
theorem high_both {w : World} {a : Vv} (ha : Sits w a) : ∃ r : Int, GivesR w 28 #[.agg #[.int .i64 a.b, .slice a.s a.n a.c]] (.int .i64 r) ∧ GivesR w 29 #[.agg #[.int .i64 a.b, .slice a.s a.n a.c]] (.int .i64 r) := by
  obtain ⟨L, hL⟩ := come_some a.b a.n a.f
  exact ⟨_, givesR_of fun W h => callsIn_wide.1 (high_in 3 (by decide) a.b a.s a.n a.c a.f L hL W (ha W h).1 (ha W h).2 h.tab h.lt), givesR_of fun W h => specHigh_any a.b a.s a.n a.c a.f L hL W (ha W h).1 (ha W h).2⟩
theorem count_impl {w : World} {a : Vv} (ha : Sits w a) : ∃ r : Nat, r ≤ 320 ∧ GivesR w 30 #[.agg #[.int .i64 a.b, .slice a.s a.n a.c]] (.int .i64 (r : Int)) ∧ (RightV a → r = (bitsL a.f a.b.toNat).length) := by
  obtain ⟨L, hL⟩ := come_some a.b a.n a.f
  exact ⟨L.length, hL.len, givesR_of fun W h => callsIn_wide.1 (count_in 3 (by decide) a.b a.s a.n a.c a.f L hL W (ha W h).1 (ha W h).2 h.tab h.lt), fun hR => count_all hR hL⟩
theorem count_both {w : World} {a : Vv} (ha : Sits w a) : ∃ r : Nat, r ≤ 320 ∧ GivesR w 30 #[.agg #[.int .i64 a.b, .slice a.s a.n a.c]] (.int .i64 (r : Int)) ∧ GivesR w 31 #[.agg #[.int .i64 a.b, .slice a.s a.n a.c]] (.int .i64 (r : Int)) ∧ (RightV a → r = (bitsL a.f a.b.toNat).length) := by
  obtain ⟨L, hL⟩ := come_some a.b a.n a.f
  exact ⟨L.length, hL.len, givesR_of fun W h => callsIn_wide.1 (count_in 3 (by decide) a.b a.s a.n a.c a.f L hL W (ha W h).1 (ha W h).2 h.tab h.lt), givesR_of fun W h => specCount_any a.b a.s a.n a.c a.f L hL W (ha W h).1 (ha W h).2, fun hR => count_all hR hL⟩
open Classical in
theorem right_both {w : World} {a : Vv} (ha : Sits w a) : ∃ r : Bool, (r = true ↔ RightV a) ∧ GivesR w 32 #[.agg #[.int .i64 a.b, .slice a.s a.n a.c]] (.bool r) ∧ GivesR w 33 #[.agg #[.int .i64 a.b, .slice a.s a.n a.c]] (.bool r) :=
  ⟨decide (Right a.b a.n a.f), by rw [decide_eq_true_iff]; exact Iff.rfl, givesR_of fun W h => implRight_any a.b a.s a.n a.c a.f W (ha W h).1 (ha W h).2, givesR_of fun W h => specRight_any a.b a.s a.n a.c a.f W (ha W h).1 (ha W h).2⟩
theorem get_both {w : World} {a : Vv} (ha : Sits w a) (i : Int) (r : Bool) (hr : GotB a.b a.n a.f i r) : GivesR w 34 #[.agg #[.int .i64 a.b, .slice a.s a.n a.c], .int .i64 i] (.bool r) ∧ GivesR w 35 #[.agg #[.int .i64 a.b, .slice a.s a.n a.c], .int .i64 i] (.bool r) :=
  ⟨givesR_of fun W h => implGet_any a.b a.s a.n a.c a.f i r W (ha W h).1 (ha W h).2 hr, givesR_of fun W h => specGet_any a.b a.s a.n a.c a.f i r W (ha W h).1 (ha W h).2 hr⟩
theorem get_fresh {w W : World} {b : Int} {s : Option Addr} {n c : Nat} {f : Nat → Int} (hL : LateV w W) (hn : n ≤ 1048576) (hr : Row W W.heap.size s n f) (i : Int) (r : Bool) (hg : GotB b n f i r) : Calls Tryd.prog 34 #[.agg #[.int .i64 b, .slice s n c], .int .i64 i] W fun e w' => e = .returned (.bool r) ∧ LateV w w' ∧ Below W.heap.size W w' :=
  (implGet_any b s n c f i r W hn hr hg).mono fun _ _ h => ⟨h.1, hL.step h.2, h.2⟩
theorem newV_both (w : World) (x : Int) : ∃ (rb : Int) (rn : Nat) (rf : Nat → Int), rn ≤ 1048576 ∧ GivesV w 20 #[.int .i64 x] rb rn rf ∧ GivesV w 21 #[.int .i64 x] rb rn rf := by
  obtain ⟨rb, rn, rf, h1, h2, h3⟩ := new_both x
  exact ⟨rb, rn, rf, h1, givesV_of fun W _ => h2 W, givesV_of fun W _ => h3 W⟩
/-- What is taken away is added again. -/
theorem back_again {c d : Vv} (hc : RightV c) (hd : RightV d) (hb : c.b = d.b) {w : World} (sd : Sits w d) {W : World} (hL : LateV w W) {so : Option Addr} {co : Nat} (hr : Row W W.heap.size so c.n (cutF c.b c.n (sumF 1 c.f (cutF c.b c.n (notF d.f))))) :
    Calls Tryd.prog 36 #[.agg #[.int .i64 c.b, .slice so c.n co], .agg #[.int .i64 d.b, .slice d.s d.n d.c]] W fun e w' => ∃ so' co', e = .returned (.agg #[.int .i64 c.b, .slice so' c.n co']) ∧ LateV w w' ∧ Below W.heap.size W w' ∧ Row w' w'.heap.size so' c.n c.f := by
  have hn := same_n hc hd hb
  have h2 : Right c.b c.n d.f := by have := hd; unfold RightV at this; rw [hn, ← hb] at this; exact this
  have hsame := sub_same (b := c.b) hc.2.2.2.1 h2.2.2.2.1
  have hR : RightV ⟨c.b, so, c.n, co, cutF c.b c.n (sumF 1 c.f (cutF c.b c.n (notF d.f)))⟩ := by
    have h3 : Right c.b c.n (cutF c.b c.n (difF c.f d.f)) := cut_right hc.1 hc.2.1 hc.2.2.1 (fun i _ => by unfold difF; omega)
    refine ⟨h3.1, h3.2.1, h3.2.2.1, fun i hi => ?_, ?_⟩
    · have := h3.2.2.2.1 i hi
      rw [hsame i hi] at this
      exact this
    · have hn0 : c.n - 1 < c.n := by have := hc.2.2.1; have := hc.1; omega
      have := h3.2.2.2.2
      rw [hsame _ hn0] at this
      exact this
  have hfew := right_few hc
  refine (add_yes ⟨c.b, so, c.n, co, _⟩ d ⟨hR, hd, hb⟩ W ⟨by show c.n ≤ 1048576; omega, hr⟩ (sd W hL)).mono ?_
  rintro e w' ⟨so', co', he, hbl, ho⟩
  refine ⟨so', co', he, hL.step hbl, hbl, ?_⟩
  have hcong : ∀ i, i < c.n → cutF c.b c.n (sumF 0 (cutF c.b c.n (sumF 1 c.f (cutF c.b c.n (notF d.f)))) d.f) i = c.f i := fun i hi => by
    rw [cut_congr (fun j hj => (sum_congr (n := c.n) (fun i hi => (hsame i hi).symm) (fun _ _ => rfl)).2 j hj) i hi]
    exact sub_add hc h2 i hi
  exact (ho.congr hcong).row
end Go.Proofs.YthnnenbpbkmbhaaDoor
