/- What is proved here: the program lays one right atom out as cells, in new memory; nothing that was there turns. -/
import Derived.Test.YtapdegmgochkhaaQKOfM
import Derived.Test.YtapdegmgochkhaaQCellS
import Derived.Test.YtapdegmgochkhaaQImplPRightW
import Derived.Test.YtapdegmgochkhaaQCloneW
import Derived.Deep.RegionHeld3
namespace Go.Proofs.Ytapdegmgochkhaa
open Go.RowKit

theorem COwn.setOther {w : World} {g n : Nat} {f : Nat → Cel} (h : COwn w g n f) (p : Addr) (v : Value) (hne : p.block ≠ g) : COwn (w.setCell p v) g n f := by
  have hx : ∀ o : Nat, (w.setCell p v).cell? ⟨g, o, none⟩ = w.cell? ⟨g, o, none⟩ := fun o => World.cell?_setCell_other _ _ _ _ (fun hh => hne (by rw [hh]))
  exact ⟨by simpa [World.setCell] using h.lt, fun i hi => ⟨by rw [hx]; exact (h.at' i hi).c0, by rw [hx]; exact (h.at' i hi).c1, by rw [hx]; exact (h.at' i hi).c2⟩, fun i hi => by rw [World.frozen?_setCell]; exact h.free i hi⟩
theorem ABox.setOther {W : World} {p : Nat} {a : Atm} (h : ABox W p a) (q : Addr) (v : Value) (hne : q.block ≠ p) : ABox (W.setCell q v) p a := by
  have hx : ∀ o : Nat, (W.setCell q v).cell? ⟨p, o, none⟩ = W.cell? ⟨p, o, none⟩ := fun o => World.cell?_setCell_other _ _ _ _ (fun hh => hne (by rw [hh]))
  exact ⟨by rw [hx]; exact h.c0, by rw [hx]; exact h.c1, by rw [hx]; exact h.c2, by simpa [World.setCell] using h.lt⟩
theorem COwn.setLoop {w : World} {g n p : Nat} {f : Nat → Cel} (h : COwn w g n f) (hp : p < n) (x : Bool) : COwn (w.setCell ⟨g, p * 3 + 2, none⟩ (.bool x)) g n (fun i => if i = p then ⟨(f i).c, (f i).k, x⟩ else f i) := by
  have hne : ∀ {x y : Nat}, x ≠ y → (⟨g, x, none⟩ : Addr) ≠ ⟨g, y, none⟩ := fun hxy hh => hxy (by injection hh)
  refine ⟨by simpa [World.setCell] using h.lt, fun i hi => ?_, fun i hi => by rw [World.frozen?_setCell]; exact h.free i hi⟩
  obtain ⟨a0, a1, a2⟩ := h.at' i hi
  by_cases e : i = p
  · subst e
    rw [if_pos rfl]
    exact ⟨by rw [World.cell?_setCell_other _ _ _ _ (hne (by omega))]; exact a0, by rw [World.cell?_setCell_other _ _ _ _ (hne (by omega))]; exact a1, World.cell?_setCell_same _ _ _ a2⟩
  · rw [if_neg e]
    exact ⟨by rw [World.cell?_setCell_other _ _ _ _ (hne (by omega))]; exact a0, by rw [World.cell?_setCell_other _ _ _ _ (hne (by omega))]; exact a1, by rw [World.cell?_setCell_other _ _ _ _ (hne (by omega))]; exact a2⟩
set_option maxRecDepth 100000 in
set_option maxHeartbeats 4000000 in
theorem cellsOfAtom_any (ac : ByteArray) (al am : Int) (w : World) (hr : AtomRight ⟨ac, al, am⟩) (hs : ac.size ≤ 256) :
    Calls Try.prog 81 #[.agg #[.string ac, .int .i64 al, .int .i64 am]] w fun e w' => ∃ g : Nat, e = .returned (.slice (some ⟨g, 0, none⟩) (cnt ⟨ac, al, am⟩) (cnt ⟨ac, al, am⟩)) ∧ w.heap.size ≤ g ∧ Below w.heap.size w w' ∧ COwn w' g (cnt ⟨ac, al, am⟩) (cellA ⟨ac, al, am⟩) := by
  obtain ⟨hn1, hn2, hn3⟩ := cnt_bd hr
  have HCA : Hid (∀ k, cellA ⟨ac, al, am⟩ k = ⟨ac, decide (al ≤ (k : Int)), decide (am = -1 ∧ k + 1 = cnt ⟨ac, al, am⟩)⟩) := fun k => rfl
  have hal0 : 0 ≤ al := hr.2.2.1
  have hal1 : al ≤ 20 := hr.2.2.2.1
  have bx := ABox.new w ⟨ac, al, am⟩ 91
  simp only at bx
  have BX : Hid (Below w.heap.size w (w.alloc (.cells #[.string ac, .int .i64 al, .int .i64 am] 91))) := (Below.refl _ _).alloc (Nat.le_refl _) _
  have CT := timesCounted_any ac al am (w.alloc (.cells #[.string ac, .int .i64 al, .int .i64 am] 91))
  rw [← hn3] at CT
  clear hn3
  generalize cnt ⟨ac, al, am⟩ = n at *
  clear hr
  go_enter Try.func81, Try.ntmps81
  go_wp2_with fail
  generalize w.alloc (.cells #[.string ac, .int .i64 al, .int .i64 am] 91) = v at *
  refine CT.mono ?_
  rintro e w1 ⟨rfl, hb1⟩
  have B1 : Hid (Below w.heap.size w w1) := BX.out.trans (hb1.mono BX.out.size)
  have X1 := bx.kept hb1 bx.lt
  obtain ⟨C, hmk, hown⟩ := make_cells w1 n (by omega)
  have O2 : Hid (COwn (w1.alloc (.cells C 85)) w1.heap.size n (fun _ => cel0)) := hown
  have B2 : Hid (Below w.heap.size w (w1.alloc (.cells C 85))) := B1.out.alloc B1.out.size _
  have X2 : Hid (ABox (w1.alloc (.cells C 85)) w.heap.size ⟨ac, al, am⟩) := X1.kept (B := w1.heap.size) ((Below.refl _ _).alloc (Nat.le_refl _) _) X1.lt
  have hwg : w.heap.size < w1.heap.size := X1.lt
  clear CT bx BX hb1 X1 hown
  go_wp2_with fail
  generalize w1.alloc (.cells C 85) = v2 at *
  generalize w1.heap.size = g at *
  clear hmk B1
  go_loopw [10] (fun iv wr => ∃ k : Nat, k ≤ n ∧ iv = .int .i64 (k : Int) ∧ Below w.heap.size w wr ∧ ABox wr w.heap.size ⟨ac, al, am⟩ ∧ COwn wr g n (fun i => if i < k then ⟨ac, decide (al ≤ (i : Int)), false⟩ else cel0)) (fun iv _ => n - (intOf iv).toNat)
  case atStart => exact ⟨0, Nat.zero_le _, rfl, B2.out, X2.out, O2.out.congr (fun i _ => by simp)⟩
  case round =>
    obtain ⟨k, hk, rfl, hbel, hbox, hown⟩ := hrel
    have HB : Hid (Below w.heap.size w wr) := hbel
    have HX : Hid (ABox wr w.heap.size ⟨ac, al, am⟩) := hbox
    have HO : Hid (COwn wr g n (fun i => if i < k then ⟨ac, decide (al ≤ (i : Int)), false⟩ else cel0)) := hown
    obtain ⟨x0, x1, x2, xl⟩ := hbox.all
    simp only at x0 x1 x2
    have hglt := hown.lt
    by_cases hkl : k < n
    · have hki : (k : Int) < (n : Int) := by omega
      have hk0 : (0 : Int) ≤ (k : Int) := by omega
      have CC := fun W => clone_any ac W (by omega)
      have HCC : Hid (∀ W, Calls Try.prog 115 #[.string ac] W fun e w' => e = .returned (.string ac) ∧ Below W.heap.size W w') := CC
      have hne1 : w.heap.size ≠ g := by omega
      have hne2 : g ≠ w.heap.size := by omega
      clear hbel hbox hown CC
      go_wp2_with fail
      go_region_held3 (fun W => W.cell? ⟨w.heap.size, 0, none⟩ = some (.string ac) ∧ W.cell? ⟨w.heap.size, 1, none⟩ = some (.int .i64 al)) (go_keep) (first | (go_at_call 115; refine (HCC.out _).mono ?_; rintro e w5 ⟨rfl, hb5⟩; have HB5 : Hid (Below wr.heap.size wr w5) := ((Below.refl wr.heap.size wr).drew).trans hb5; have X5 : Hid (ABox w5 w.heap.size ⟨ac, al, am⟩) := HX.out.kept HB5.out xl; have O5 : Hid (COwn w5 g n (fun i => if i < k then ⟨ac, decide (al ≤ (i : Int)), false⟩ else cel0)) := HO.out.kept HB5.out hglt; obtain ⟨y0, y1, y2, yl⟩ := X5.out.all; obtain ⟨⟨d0, d1, d2⟩, e0, e1, e2⟩ := O5.out.parts hkl; clear hb5))
      all_goals
        go_wp2_with fail
        go_roundw
        case rel => exact ⟨k + 1, by omega, by go_num, (((HB.out.trans (HB5.out.mono HB.out.size)).setCell (by show w.heap.size ≤ g; omega) _).setCell (by show w.heap.size ≤ g; omega) _).setCell (by show w.heap.size ≤ g; omega) _, ((X5.out.setOther _ _ hne2).setOther _ _ hne2).setOther _ _ hne2, (O5.out.set hkl ⟨ac, decide (al ≤ (k : Int)), false⟩).congr (fun i hi => by
          by_cases e : i = k
          · subst e; rw [if_pos rfl, if_pos (by omega)]
          · rw [if_neg e]
            by_cases e2 : i < k
            · rw [if_pos e2, if_pos (by omega)]
            · rw [if_neg e2, if_neg (by omega)])⟩
        case measure => simp [intOf]; omega
    · have hki : ¬ (k : Int) < (n : Int) := by omega
      obtain rfl : k = n := by omega
      obtain ⟨q, hq⟩ : ∃ q, q + 1 = k := ⟨k - 1, by omega⟩
      have hqi : (k : Int) - 1 = (q : Int) := by omega
      have hq0 : (0 : Int) ≤ (q : Int) := by omega
      have hq1 : (q : Int) < (k : Int) := by omega
      have hqk : q < k := by omega
      obtain ⟨⟨d0, d1, d2⟩, e0, e1, e2⟩ := hown.parts hqk
      have hne1 : w.heap.size ≠ g := by omega
      have FIN : Hid (∀ x : Bool, x = decide (am = -1) → COwn (wr.setCell ⟨g, q * 3 + 2, none⟩ (.bool x)) g k (cellA ⟨ac, al, am⟩)) := fun x hx => (HO.out.setLoop hqk x).congr (fun i hi => by
        rw [HCA.out i]
        by_cases e : i = q
        · subst e
          rw [if_pos rfl, if_pos hi, hx]
          congr 1
          by_cases h9 : am = -1
          · rw [decide_eq_true h9, decide_eq_true ⟨h9, hq⟩]
          · rw [decide_eq_false h9, decide_eq_false (fun h => h9 h.1)]
        · rw [if_neg e, if_pos hi]
          congr 1
          rw [decide_eq_false (fun h => e (by have := h.2; omega))])
      clear hbel hbox hown
      have FIN2 := FIN.out (am == -1) (by by_cases h9 : am = -1 <;> simp [h9])
      go_wp2_with fail
      go_ret
      exact ⟨g, rfl, by omega, HB.out.setCell (by show w.heap.size ≤ g; omega) _, FIN2⟩
end Go.Proofs.Ytapdegmgochkhaa
