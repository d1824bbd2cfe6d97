/- What is proved here: the program's Reverse hands back, of a right pattern, its atoms the other way round in new memory, else none; nothing that was there turns. -/
import Derived.Test.YtfeolbgenpknfaaQAtomSToMarkTextW
import Derived.Test.YtfeolbgenpknfaaQImplPYesWToImplAllPW
import Derived.Test.YtfeolbgenpknfaaQBackWToCloneW
namespace Go.Proofs.Ytfeolbgenpknfaa
open Go.RowKit

theorem AOwn.setOther {w : World} {g n : Nat} {f : Nat → Atm} (h : AOwn w g n f) (p : Addr) (v : Value) (hne : p.block ≠ g) : AOwn (w.setCell p v) g n f := by
  have hx : ∀ o : Nat, (w.setCell p v).cell? ⟨g, o, none⟩ = w.cell? ⟨g, o, none⟩ := fun o => World.cell?_setCell_other _ _ _ _ (fun hh => hne (by rw [hh]))
  exact ⟨by simpa [World.setCell] using h.lt, fun i hi => ⟨by rw [hx]; exact (h.at' i hi).c0, by rw [hx]; exact (h.at' i hi).c1, by rw [hx]; exact (h.at' i hi).c2⟩, fun i hi => by rw [World.frozen?_setCell]; exact h.free i hi⟩
theorem implRev_no (sa : Option Addr) (n cap : Nat) (f : Nat → Atm) (w : World) (hn : n ≤ 1048576) (hr : ARow w w.heap.size sa n f) (hc : ∀ i, i < n → (f i).c.size ≤ maxLen) (h : ¬ PatRight n f) :
    Calls Try.prog 60 #[.slice sa n cap] w fun e w' => NewAtoms w 0 f e w' := by
  have hn' : n ≤ maxLen := by unfold maxLen; omega
  have HP := implPRight_no sa n cap f w hn' hr hc h
  have HQ : Hid (Calls Try.prog 57 #[.slice sa n cap] w fun e w' => e = .returned (.bool false) ∧ Below w.heap.size w w') := HP
  clear HP hn' hr hc h
  go_enter Try.func60, Try.ntmps60
  go_wp2_with fail
  refine HQ.out.mono ?_
  rintro e w1 ⟨rfl, hb⟩
  have B1 : Hid (Below w.heap.size w w1) := hb
  clear hb
  go_wp2_with fail
  go_ret
  exact ⟨none, 0, rfl, B1.out, Or.inl rfl⟩

set_option maxRecDepth 100000 in
set_option maxHeartbeats 4000000 in
theorem implRev_yes (sa : Option Addr) (n cap : Nat) (f : Nat → Atm) (w : World) (hn : n ≤ 1048576) (hr : ARow w w.heap.size sa n f) (hc : ∀ i, i < n → (f i).c.size ≤ maxLen) (hc2 : ∀ i, i < n → (f i).c.size ≤ 1000000) (h : PatRight n f) :
    Calls Try.prog 60 #[.slice sa n cap] w fun e w' => NewAtoms w n (fun i => f (n - 1 - i)) e w' := by
  have hn' : n ≤ maxLen := by unfold maxLen; omega
  have HP := implPRight_yes sa n cap f w hn' hr hc h
  have HQ : Hid (Calls Try.prog 57 #[.slice sa n cap] w fun e w' => e = .returned (.bool true) ∧ Below w.heap.size w w') := HP
  have HR : Hid (ARow w w.heap.size sa n f) := hr
  have HC : Hid (∀ i, i < n → (f i).c.size ≤ 1000000) := hc2
  have hn20 := h.2.1
  clear HP hn' hr hc hc2 h
  go_enter Try.func60, Try.ntmps60
  go_wp2_with fail
  refine HQ.out.mono ?_
  rintro e w1 ⟨rfl, hb⟩
  have B1 : Hid (Below w.heap.size w w1) := hb
  clear hb HQ
  obtain ⟨C, hmk, hown⟩ := make_atoms w1 n (by omega)
  have HO : Hid (AOwn (w1.alloc (.cells C 89)) w1.heap.size n (fun _ => atm0)) := hown
  have BM : Hid (Below w.heap.size w (w1.alloc (.cells C 89))) := B1.out.alloc B1.out.size _
  have hgs := B1.out.size
  clear hown B1
  generalize w1.alloc (.cells C 89) = wm at *
  generalize w1.heap.size = g at *
  go_wp2_with fail
  go_loopw [14] (fun i wr => ∃ k : Nat, k ≤ n ∧ i = .int .i64 (k : Int) ∧ Below w.heap.size w wr ∧ AOwn wr g n (fun i => if n - k ≤ i then f (n - 1 - i) else atm0)) (fun i _ => n - (intOf i).toNat)
  case atStart => exact ⟨0, Nat.zero_le _, rfl, BM.out, HO.out.congr (fun i hi => by rw [if_neg (by omega)])⟩
  case round =>
    obtain ⟨k, hk, rfl, hbel, hown⟩ := hrel
    have HB : Hid (Below w.heap.size w wr) := hbel
    have HW : Hid (AOwn wr g n (fun i => if n - k ≤ i then f (n - 1 - i) else atm0)) := hown
    have hsz := hown.lt
    clear hown
    by_cases hkl : k < n
    · obtain ⟨bb, off, rfl, hbb, hat⟩ := HR.out.at hbel hkl
      obtain ⟨c0, c1, c2⟩ := hat
      have HK : Hid ((f k).c.size ≤ 1000000) := HC.out k hkl
      clear hbel
      have hki : (k : Int) < (n : Int) := by omega
      have hk0 : (0 : Int) ≤ (k : Int) := by omega
      obtain ⟨⟨ac, al, am⟩, ha⟩ : ∃ a, f k = a := ⟨_, rfl⟩
      have HF : Hid (f k = ⟨ac, al, am⟩) := ha
      rw [ha] at c0 c1 c2 HK
      simp only at c0 c1 c2 HK
      clear ha
      have bx := ABox.new wr ⟨ac, al, am⟩ 89
      simp only at bx
      have fz : (wr.alloc (.cells #[.string ac, .int .i64 al, .int .i64 am] 89)).frozen? ⟨wr.heap.size, 0, none⟩ = false := frozen_of_row _ _ _ _ _ (heap_alloc_new wr _)
      have hb0 : Below wr.heap.size wr (wr.alloc (.cells #[.string ac, .int .i64 al, .int .i64 am] 89)) := (Below.refl _ _).alloc (Nat.le_refl _) _
      have BX : Hid (Below w.heap.size w (wr.alloc (.cells #[.string ac, .int .i64 al, .int .i64 am] 89))) := HB.out.trans (hb0.mono HB.out.size)
      have OX : Hid (AOwn (wr.alloc (.cells #[.string ac, .int .i64 al, .int .i64 am] 89)) g n (fun i => if n - k ≤ i then f (n - 1 - i) else atm0)) := HW.out.kept hb0 hsz
      have hwr := HB.out.size
      clear hb0 HW
      go_wp2_with fail
      generalize wr.alloc (.cells #[.string ac, .int .i64 al, .int .i64 am] 89) = v at *
      generalize wr.heap.size = p at *
      clear HB c0 c1 c2
      refine (clone_any ac _ HK.out).mono ?_
      rintro e w2 ⟨rfl, hb⟩
      have B2 : Hid (Below w.heap.size w w2) := BX.out.trans (hb.mono BX.out.size)
      have HX : Hid (ABox w2 p ⟨ac, al, am⟩) := bx.kept hb bx.lt
      have O2 : Hid (AOwn w2 g n (fun i => if n - k ≤ i then f (n - 1 - i) else atm0)) := OX.out.kept hb OX.out.lt
      have fz2 : w2.frozen? ⟨p, 0, none⟩ = false := by rw [hb.frozen (p := ⟨p, 0, none⟩) bx.lt]; exact fz
      obtain ⟨x0, x1, x2, xl⟩ := HX.out.all
      simp only at x0 x1 x2
      obtain ⟨q, hq⟩ : ∃ q : Nat, n - 1 - k = q := ⟨_, rfl⟩
      have hqi : (n : Int) - 1 - (k : Int) = (q : Int) := by omega
      have hqn : q < n := by omega
      have HQ : Hid (n - 1 - k = q) := hq
      have hpg : ¬ p = g := by omega
      obtain ⟨⟨d0, d1, d2⟩, e0, e1, e2⟩ := O2.out.parts hqn
      clear hb bx fz BX OX hq
      go_wp2_with fail
      go_roundw
      case rel =>
        refine ⟨k + 1, by omega, by go_num, (((B2.out.setCell (by show w.heap.size ≤ p; omega) _).setCell (by show w.heap.size ≤ g; omega) _).setCell (by show w.heap.size ≤ g; omega) _).setCell (by show w.heap.size ≤ g; omega) _, ?_⟩
        have h1 := (O2.out.setOther ⟨p, 0, none⟩ (.string ac) (by show p ≠ g; omega)).set hqn ⟨ac, al, am⟩
        refine h1.congr (fun i hi => ?_)
        have := HQ.out
        by_cases e : i = q
        · subst e
          rw [if_pos rfl, if_pos (by omega), show n - 1 - i = k by omega, HF.out]
        · rw [if_neg e]
          by_cases e2 : n - k ≤ i
          · rw [if_pos e2, if_pos (by omega)]
          · rw [if_neg e2, if_neg (by omega)]
      case measure => simp [intOf]; omega
    · have hki : ¬ (k : Int) < (n : Int) := by omega
      obtain rfl : k = n := by omega
      clear hbel
      go_wp2_with fail
      go_ret
      exact ⟨_, _, rfl, HB.out, Or.inr ⟨g, rfl, hgs, hsz, HW.out.congr (fun i hi => by rw [if_pos (by omega)])⟩⟩
end Go.Proofs.Ytfeolbgenpknfaa
