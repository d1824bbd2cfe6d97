/- What is proved here: a row of plain cells is made ready to be gone along by turned bits, in a new block; nothing that was there turns.
   What is said here: the table of a turned row, as it is filled, as plain mathematics.
   What is proved here: the program writes down for each byte the bits of the cells that lack it, in the row's own block; nothing else that was there turns.
   What is proved here: the parts of sync.Once's two roads at a free lock, one goroutine.
   What is proved here: a turned row's table is filled just once, whatever byte comes by first; what a byte's bits are. -/
import Derived.Test.YtlgnplnmcdjbiaaQPlainW
import Derived.Test.YtlgnplnmcdjbiaaQVecNotBMToTurnM
import Derived.RegionTactic
import Derived.BigRegion
import Derived.Test.YtlgnplnmcdjbiaaProg
import Derived.WalkKit
import Derived.Defers
import Derived.Laws.Pointers
import Derived.Laws.LoneSync
import Derived.RegionCalls
namespace Go.Proofs.Ytlgnplnmcdjbiaa
open Go.RowKit

/-- A turned row, in its block. -/
structure TRow (W : World) (b : Nat) (sa : Option Addr) (n cap al : Nat) (d u : Int) (tab : Nat → Nat) : Prop where
  c0 : W.cell? ⟨b, 0, none⟩ = some (.slice sa n cap)
  c1 : W.cell? ⟨b, 1, none⟩ = some (.int .u64 (al : Int))
  c2 : W.cell? ⟨b, 2, none⟩ = some (.int .u32 d)
  c3 : W.cell? ⟨b, 3, none⟩ = some (.int .i32 u)
  tb : ∀ j, j < 256 → W.cell? ⟨b, 5 + j, none⟩ = some (.int .u64 (tab j : Int))
  fr : ∀ j, j < 261 → W.frozen? ⟨b, j, none⟩ = false
  lt : b < W.heap.size
theorem Try.turnedZero : Try.zeroCells174 = #[.slice none 0 0, .int .u64 0, .int .u32 0, .int .i32 0, .int .u32 0] ++ Array.replicate 256 (.int .u64 0) := by kernel_rfl
theorem trow_new (W : World) (sa : Option Addr) (n cap al : Nat) (ty : TypeId) : TRow (W.alloc (.cells ((Try.zeroCells174.setIfInBounds 0 (.slice sa n cap)).setIfInBounds 1 (.int .u64 (al : Int))) ty)) W.heap.size sa n cap al 0 0 (fun _ => 0) := by
  rw [Try.turnedZero]
  refine ⟨?_, ?_, ?_, ?_, fun j hj => ?_, fun j hj => frozen_of_row _ _ _ _ _ (heap_alloc_new W _), by simp⟩
  · rw [World.cell?_alloc_mark]; simp
  · rw [World.cell?_alloc_mark]; simp
  · rw [World.cell?_alloc_mark]; simp
  · rw [World.cell?_alloc_mark]; simp
  · rw [World.cell?_alloc_mark, Array.getElem?_setIfInBounds_ne (by omega), Array.getElem?_setIfInBounds_ne (by omega), Array.getElem?_append_right (by simp)]
    simp [hj]
theorem TRow.kept {W W' : World} {B b : Nat} {sa : Option Addr} {n cap al : Nat} {d u : Int} {tab : Nat → Nat} (h : TRow W b sa n cap al d u tab) (hb : Below B W W') (hB : b < B) : TRow W' b sa n cap al d u tab :=
  ⟨by rw [hb.cell (p := ⟨b, 0, none⟩) hB]; exact h.c0, by rw [hb.cell (p := ⟨b, 1, none⟩) hB]; exact h.c1, by rw [hb.cell (p := ⟨b, 2, none⟩) hB]; exact h.c2, by rw [hb.cell (p := ⟨b, 3, none⟩) hB]; exact h.c3, fun j hj => by rw [hb.cell (p := ⟨b, 5 + j, none⟩) hB]; exact h.tb j hj, fun j hj => by rw [hb.frozen (p := ⟨b, j, none⟩) hB]; exact h.fr j hj, Nat.lt_of_lt_of_le h.lt hb.size⟩
theorem TRow.drew {W : World} {b : Nat} {sa : Option Addr} {n cap al : Nat} {d u : Int} {tab : Nat → Nat} (h : TRow W b sa n cap al d u tab) : TRow W.drew b sa n cap al d u tab := ⟨h.c0, h.c1, h.c2, h.c3, h.tb, h.fr, h.lt⟩
theorem TRow.set {W : World} {b : Nat} {sa : Option Addr} {n cap al : Nat} {d u : Int} {tab : Nat → Nat} (h : TRow W b sa n cap al d u tab) {x : Nat} (hx : x < 256) (v : Nat) : TRow (W.setCell ⟨b, 5 + x, none⟩ (.int .u64 (v : Int))) b sa n cap al d u (fun j => if j = x then v else tab j) := by
  have hne : ∀ {i : Nat}, i ≠ 5 + x → (⟨b, 5 + x, none⟩ : Addr) ≠ ⟨b, i, none⟩ := fun hi hh => hi (by injection hh with _ h2; exact h2.symm)
  refine ⟨?_, ?_, ?_, ?_, fun j hj => ?_, fun j hj => by rw [World.frozen?_setCell]; exact h.fr j hj, by simpa [World.setCell] using h.lt⟩
  · rw [World.cell?_setCell_other _ _ _ _ (hne (by omega))]; exact h.c0
  · rw [World.cell?_setCell_other _ _ _ _ (hne (by omega))]; exact h.c1
  · rw [World.cell?_setCell_other _ _ _ _ (hne (by omega))]; exact h.c2
  · rw [World.cell?_setCell_other _ _ _ _ (hne (by omega))]; exact h.c3
  · by_cases e : j = x
    · subst e
      rw [World.cell?_setCell_same _ _ _ (h.tb j hj)]
      simp
    · rw [World.cell?_setCell_other _ _ _ _ (hne (by omega)), h.tb j hj]
      simp [e]
theorem TRow.done {W : World} {b : Nat} {sa : Option Addr} {n cap al : Nat} {d u : Int} {tab : Nat → Nat} (h : TRow W b sa n cap al d u tab) (x : Int) : TRow (W.setCell ⟨b, 2, none⟩ (.int .u32 x)) b sa n cap al x u tab := by
  have hne : ∀ {i : Nat}, i ≠ 2 → (⟨b, 2, none⟩ : Addr) ≠ ⟨b, i, none⟩ := fun hi hh => hi (by injection hh with _ h2; exact h2.symm)
  refine ⟨?_, ?_, World.cell?_setCell_same _ _ _ h.c2, ?_, fun j hj => ?_, fun j hj => by rw [World.frozen?_setCell]; exact h.fr j hj, by simpa [World.setCell] using h.lt⟩
  · rw [World.cell?_setCell_other _ _ _ _ (hne (by omega))]; exact h.c0
  · rw [World.cell?_setCell_other _ _ _ _ (hne (by omega))]; exact h.c1
  · rw [World.cell?_setCell_other _ _ _ _ (hne (by omega))]; exact h.c3
  · rw [World.cell?_setCell_other _ _ _ _ (hne (by omega))]; exact h.tb j hj
theorem TRow.lock {W : World} {b : Nat} {sa : Option Addr} {n cap al : Nat} {d u : Int} {tab : Nat → Nat} (h : TRow W b sa n cap al d u tab) (x : Int) : TRow (W.setCell ⟨b, 3, none⟩ (.int .i32 x)) b sa n cap al d x tab := by
  have hne : ∀ {i : Nat}, i ≠ 3 → (⟨b, 3, none⟩ : Addr) ≠ ⟨b, i, none⟩ := fun hi hh => hi (by injection hh with _ h2; exact h2.symm)
  refine ⟨?_, ?_, ?_, World.cell?_setCell_same _ _ _ h.c3, fun j hj => ?_, fun j hj => by rw [World.frozen?_setCell]; exact h.fr j hj, by simpa [World.setCell] using h.lt⟩
  · rw [World.cell?_setCell_other _ _ _ _ (hne (by omega))]; exact h.c0
  · rw [World.cell?_setCell_other _ _ _ _ (hne (by omega))]; exact h.c1
  · rw [World.cell?_setCell_other _ _ _ _ (hne (by omega))]; exact h.c2
  · rw [World.cell?_setCell_other _ _ _ _ (hne (by omega))]; exact h.tb j hj
theorem only_setT {a w : World} {b i : Nat} {v : Value} (h : a.grownBy w (some b)) : a.grownBy (w.setCell ⟨b, i, none⟩ v) (some b) :=
  h.trans ⟨rfl, rfl, rfl, by simp [World.setCell], fun k _ hk => Below.heap_setCell _ _ _ _ (fun e => hk (by simp [e]))⟩
theorem grown_drewT {a w : World} {b : Nat} (h : a.grownBy w (some b)) : a.grownBy w.drew (some b) := ⟨h.os, h.tape, h.output, h.size, h.block⟩
theorem cells_grownT {w W : World} {b n : Nat} {sa : Option Addr} {f : Nat → Cel} (h : CRow w b sa n f) (hg : w.grownBy W (some b)) (hb : b < w.heap.size) : CRow W b sa n f :=
  h.kept ⟨hg.os, hg.tape, hg.output, hg.size, fun j hj => hg.block j (by omega) (fun e => by injection e with e; omega)⟩
open Classical in
theorem implPlain_yes (sa : Option Addr) (n cap : Nat) (f : Nat → Cel) (w : World) (hn : n ≤ maxLen) (hr : CRow w w.heap.size sa n f) (hc : ∀ i, i < n → (f i).c.size ≤ maxLen) (h : PlainP n f) :
    Calls Try.prog 193 #[.slice sa n cap] w fun e w' => e = .returned (.bool true) ∧ Below w.heap.size w w' :=
  (implPlain_any sa n cap f w hn hr hc).mono fun _ _ h2 => ⟨by rw [h2.1, decide_eq_true h], h2.2⟩
open Classical in
theorem implPlain_no (sa : Option Addr) (n cap : Nat) (f : Nat → Cel) (w : World) (hn : n ≤ maxLen) (hr : CRow w w.heap.size sa n f) (hc : ∀ i, i < n → (f i).c.size ≤ maxLen) (h : ¬ PlainP n f) :
    Calls Try.prog 193 #[.slice sa n cap] w fun e w' => e = .returned (.bool false) ∧ Below w.heap.size w w' :=
  (implPlain_any sa n cap f w hn hr hc).mono fun _ _ h2 => ⟨by rw [h2.1, decide_eq_false h], h2.2⟩
set_option maxRecDepth 100000 in
set_option maxHeartbeats 4000000 in
theorem turnedRowOf_yes (sa : Option Addr) (n cap : Nat) (f : Nat → Cel) (w : World) (hn : n ≤ maxLen) (hr : CRow w w.heap.size sa n f) (hc : ∀ i, i < n → (f i).c.size ≤ maxLen) (h : PlainP n f) :
    Calls Try.prog 139 #[.slice sa n cap] w fun e w' => ∃ b : Nat, e = .returned (.pointer (some ⟨b, 0, none⟩)) ∧ w.heap.size ≤ b ∧ Below w.heap.size w w' ∧ TRow w' b sa n cap (2 ^ n - 1) 0 0 (fun _ => 0) := by
  have C := implPlain_yes sa n cap f w hn hr hc h
  have hn60 := h.1.2.1
  clear hn hr hc h
  have hpl : 2 ^ n < 18446744073709551616 := pow_lt64 (by omega)
  have hpp : 0 < 2 ^ n := Nat.pow_pos (by decide)
  have hpw := wrap_powP (r := n) (by omega)
  have hal : ((2 ^ n : Nat) : Int) - 1 = ((2 ^ n - 1 : Nat) : Int) := by omega
  have hwa : IntKind.u64.wrap ((2 ^ n - 1 : Nat) : Int) = ((2 ^ n - 1 : Nat) : Int) := by rw [IntKind.wrap_u64]; omega
  obtain ⟨al, hae⟩ : ∃ al, 2 ^ n - 1 = al := ⟨_, rfl⟩
  rw [hae] at hal hwa ⊢
  clear hae
  go_enter Try.func139, Try.ntmps139
  go_wp2_with fail
  refine C.mono ?_
  rintro e w1 ⟨rfl, hb1⟩
  have B1 : Hid (Below w.heap.size w w1) := hb1
  clear hb1 C
  generalize ((2 ^ n : Nat) : Int) = P at *
  go_wp2_with fail
  go_ret
  exact ⟨_, rfl, B1.out.size, B1.out.alloc B1.out.size _, trow_new w1 sa n cap al _⟩
theorem turnedRowOf_no (sa : Option Addr) (n cap : Nat) (f : Nat → Cel) (w : World) (hn : n ≤ maxLen) (hr : CRow w w.heap.size sa n f) (hc : ∀ i, i < n → (f i).c.size ≤ maxLen) (h : ¬ PlainP n f) :
    Calls Try.prog 139 #[.slice sa n cap] w fun e w' => e = .returned (.pointer none) ∧ Below w.heap.size w w' := by
  have C := implPlain_no sa n cap f w hn hr hc h
  clear hn hr hc h
  go_enter Try.func139, Try.ntmps139
  go_wp2_with fail
  refine C.mono ?_
  rintro e w1 ⟨rfl, hb1⟩
  have B1 : Hid (Below w.heap.size w w1) := hb1
  clear hb1 C
  go_wp2_with fail
  go_ret
  exact ⟨rfl, B1.out⟩
end Go.Proofs.Ytlgnplnmcdjbiaa
namespace Go.Proofs.Ytlgnplnmcdjbiaa

/-- The bits of one byte's number, when k cells were written down. -/
def tabP (f : Nat → Cel) (n k c : Nat) : Nat → Bool := fun j => decide (j < n) && !(decide (j < k) && hasByte (f j).c c)
/-- The table when k cells were written down. -/
def TurnAt (f : Nat → Cel) (n k : Nat) (tab : Nat → Nat) : Prop := ∀ c, c < 256 → IsBits (tab c) (tabP f n k c)
/-- And the first m bytes of the next one. -/
def TurnTo (f : Nat → Cel) (n k m : Nat) (tab : Nat → Nat) : Prop := ∀ c, c < 256 → IsBits (tab c) (fun j => tabP f n k c j && !(decide (k = j) && hasUpTo (f k).c m c))
theorem turnAt_zero (f : Nat → Cel) {n : Nat} (hn : n ≤ 63) : TurnAt f n 0 (fun _ => 2 ^ n - 1) := fun c _ => (bits_all hn).congr (fun j => by
  unfold tabP allB
  rw [decide_eq_false (show ¬ j < 0 by omega)]
  simp)
theorem TurnAt.same {f : Nat → Cel} {n k : Nat} {tab tab' : Nat → Nat} (h : TurnAt f n k tab) (e : ∀ j, j < 256 → tab' j = tab j) : TurnAt f n k tab' := fun c hc => by rw [e c hc]; exact h c hc
theorem turnTo_begin {f : Nat → Cel} {n k : Nat} {tab : Nat → Nat} (h : TurnAt f n k tab) : TurnTo f n k 0 tab := fun c hc => (h c hc).congr (fun j => by rw [hasUpTo_zero]; simp)
theorem turnTo_end {f : Nat → Cel} {n k : Nat} {tab : Nat → Nat} (h : TurnTo f n k (f k).c.size tab) : TurnAt f n (k + 1) tab := fun c hc => (h c hc).congr (fun j => by
  rw [hasUpTo_all]
  unfold tabP
  by_cases e : k = j
  · subst e
    rw [decide_eq_false (show ¬ k < k by omega), decide_eq_true (show k < k + 1 by omega)]
    simp
  · rw [decide_eq_false e]
    by_cases e2 : j < k
    · rw [decide_eq_true e2, decide_eq_true (show j < k + 1 by omega)]
      simp
    · rw [decide_eq_false e2, decide_eq_false (show ¬ j < k + 1 by omega)]
      simp)
theorem turnTo_step {f : Nat → Cel} {n k m : Nat} {tab : Nat → Nat} (h : TurnTo f n k m tab) (hk : k < 63) (hm : m < (f k).c.size) : TurnTo f n k (m + 1) (fun j => if j = (f k).c[m].toNat then tab j ^^^ (tab j &&& 2 ^ k) else tab j) := fun c hc => by
  show IsBits (if c = (f k).c[m].toNat then tab c ^^^ (tab c &&& 2 ^ k) else tab c) _
  by_cases e : c = (f k).c[m].toNat
  · rw [if_pos e]
    refine (bits_andNot (h c hc) (bits_pow (k := k) (by omega))).congr (fun j => ?_)
    rw [hasUpTo_succ _ _ _ hm]
    have : ((f k).c[m].toNat == c) = true := by rw [e]; simp
    rw [this]
    by_cases e2 : k = j
    · subst e2; simp
    · simp [e2]
  · rw [if_neg e]
    refine (h c hc).congr (fun j => ?_)
    rw [hasUpTo_succ _ _ _ hm]
    have : ((f k).c[m].toNat == c) = false := by simp; exact fun h => e h.symm
    rw [this, Bool.or_false]
theorem turnAt_lack {f : Nat → Cel} {n : Nat} {tab : Nat → Nat} (h : TurnAt f n n tab) {c : Nat} (hc : c < 256) : IsBits (tab c) (lackB f n c) := (h c hc).congr (fun j => by
  unfold tabP lackB
  cases decide (j < n) <;> simp)
end Go.Proofs.Ytlgnplnmcdjbiaa
namespace Go.Proofs.Ytlgnplnmcdjbiaa
open Go.RowKit

theorem TRow.alloc {W : World} {b : Nat} {sa : Option Addr} {n cap al : Nat} {d u : Int} {tab : Nat → Nat} (h : TRow W b sa n cap al d u tab) (o : Obj) : TRow (W.alloc o) b sa n cap al d u tab := h.kept (B := W.heap.size) ((Below.refl _ _).alloc (Nat.le_refl _) _) h.lt
theorem CRow.atT {w : World} {B n k : Nat} {sa : Option Addr} {f : Nat → Cel} (h : CRow w B sa n f) (hk : k < n) : ∃ bb off : Nat, sa = some ⟨bb, off, none⟩ ∧ bb < B ∧ CellAt w bb (off + k * 3) (f k) := by
  rcases h with h | ⟨bb, off, h1, h2, h3⟩
  · omega
  · exact ⟨bb, off, h1, h2, h3 k hk⟩
set_option maxRecDepth 100000 in
set_option maxHeartbeats 4000000 in
theorem turnFill_any (b : Nat) (sa : Option Addr) (n cap : Nat) (d u : Int) (f : Nat → Cel) (w : World) (hn : n ≤ 60) (hsz : ∀ i, i < n → (f i).c.size ≤ 256) (hr : CRow w b sa n f) (hk : TRow w b sa n cap (2 ^ n - 1) d u (fun _ => 0)) :
    Calls Try.prog 195 #[.pointer (some ⟨b, 0, none⟩)] w fun e w' => ∃ tab : Nat → Nat, e = .returned (.tuple #[]) ∧ w.grownBy w' (some b) ∧ TRow w' b sa n cap (2 ^ n - 1) d u tab ∧ TurnAt f n n tab := by
  obtain ⟨al, hal⟩ : ∃ al, 2 ^ n - 1 = al := ⟨_, rfl⟩
  have H0 : Hid (TurnAt f n 0 (fun _ => al)) := by
    have h := turnAt_zero f (n := n) (by omega)
    rw [hal] at h
    exact h
  rw [hal] at hk ⊢
  have HR : Hid (CRow w b sa n f) := hr
  have HK : Hid (TRow w b sa n cap al d u (fun _ => 0)) := hk
  have HSZ : Hid (∀ i, i < n → (f i).c.size ≤ 256) := hsz
  have hblt := hk.lt
  clear hr hk hsz hal
  go_enter Try.func195, Try.ntmps195
  go_wp2_with fail
  go_loopw [6] (fun i wr => ∃ (k : Nat) (tab : Nat → Nat), k ≤ 256 ∧ i = .int .i64 (k : Int) ∧ w.grownBy wr (some b) ∧ TRow wr b sa n cap al d u tab ∧ ∀ j, j < k → tab j = al) (fun i _ => 256 - (intOf i).toNat)
  case atStart => exact ⟨0, _, Nat.zero_le _, rfl, World.grownBy.refl _ _, HK.out, fun j hj => by omega⟩
  case round =>
    obtain ⟨k, tab, hk, rfl, hgr, hrow, htab⟩ := hrel
    have HG : Hid (w.grownBy wr (some b)) := hgr
    have HW : Hid (TRow wr b sa n cap al d u tab) := hrow
    have HT : Hid (∀ j, j < k → tab j = al) := htab
    by_cases hkl : k < 256
    · have hki : (k : Int) < 256 := by omega
      have hk0 : (0 : Int) ≤ (k : Int) := by omega
      have c1 := hrow.c1
      have cx := hrow.tb k hkl
      have fx := hrow.fr (5 + k) (by omega)
      have hlb := hrow.lt
      have W5 : Hid (TRow (wr.setCell ⟨b, 5 + k, none⟩ (.int .u64 (al : Int))) b sa n cap al d u (fun j => if j = k then al else tab j)) := HW.out.set hkl al
      have HT5 : Hid (∀ j, j < k + 1 → (if j = k then al else tab j) = al) := fun j hj => by
        by_cases e : j = k
        · rw [if_pos e]
        · rw [if_neg e]; exact HT.out j (by omega)
      clear hgr hrow htab
      go_wp2_with fail
      go_region
      all_goals
        go_wp2_with fail
        go_roundw
        case rel => exact ⟨k + 1, _, by omega, by go_num, grown_drewT (only_setT HG.out), W5.out.drew, HT5.out⟩
        case measure => simp [intOf]; omega
    · have hki : ¬ (k : Int) < 256 := by omega
      obtain rfl : k = 256 := by omega
      have k0 := hrow.c0
      have hlb := hrow.lt
      have HT0 : Hid (TurnAt f n 0 tab) := H0.out.same (fun j hj => htab j hj)
      clear hgr hrow htab H0 HT HK
      go_wp2_with fail
      go_loopw [24] (fun i wr => ∃ (k : Nat) (tab : Nat → Nat), k ≤ n ∧ i = .int .i64 (k : Int) ∧ w.grownBy wr (some b) ∧ TRow wr b sa n cap al d u tab ∧ TurnAt f n k tab) (fun i _ => n - (intOf i).toNat)
      case atStart => exact ⟨0, _, Nat.zero_le _, rfl, HG.out, HW.out, HT0.out⟩
      case round =>
        clear k0 hlb HG HW HT0 hki hk
        obtain ⟨k, tab, hk, rfl, hgr, hrow, htab⟩ := hrel
        have HG : Hid (w.grownBy wr (some b)) := hgr
        have HW : Hid (TRow wr b sa n cap al d u tab) := hrow
        have HT : Hid (TurnAt f n k tab) := htab
        by_cases hkl : k < n
        · obtain ⟨bb, off, rfl, hbb, hat⟩ := (cells_grownT HR.out hgr hblt).atT hkl
          obtain ⟨c0, c1, c2⟩ := hat
          have hki : (k : Int) < (n : Int) := by omega
          have hk0 : (0 : Int) ≤ (k : Int) := by omega
          obtain ⟨⟨ac, al2, am⟩, ha⟩ : ∃ a, f k = a := ⟨_, rfl⟩
          have hacs := HSZ.out k hkl
          rw [ha] at c0 c1 c2 hacs
          simp only at c0 c1 c2 hacs
          have TB : Hid (TurnTo f n k 0 tab) := turnTo_begin htab
          have HEN : Hid (∀ tb, TurnTo f n k ac.size tb → TurnAt f n (k + 1) tb) := fun tb h9 => turnTo_end (by rw [ha]; exact h9)
          have HST : Hid (∀ m tb (hm : m < ac.size), TurnTo f n k m tb → TurnTo f n k (m + 1) (fun j => if j = ac[m].toNat then tb j ^^^ (tb j &&& 2 ^ k) else tb j)) := fun m tb hm h9 => by
            have h8 := turnTo_step h9 (by omega) (by rw [ha]; exact hm)
            simp only [ha] at h8
            exact h8
          have W2 : Hid (TRow (wr.alloc (.cells #[.string ac, .bool al2, .bool am] 166)) b (some ⟨bb, off, none⟩) n cap al d u tab) := HW.out.alloc _
          have G2 : Hid (w.grownBy (wr.alloc (.cells #[.string ac, .bool al2, .bool am] 166)) (some b)) := HG.out.trans (World.grownBy_alloc _ _ _)
          have X2 : Hid (CBox (wr.alloc (.cells #[.string ac, .bool al2, .bool am] 166)) wr.heap.size ⟨ac, al2, am⟩) := CBox.new wr ⟨ac, al2, am⟩ _
          have hpb : wr.heap.size ≠ b := by have := HW.out.lt; omega
          clear ha hgr hrow htab
          go_wp2_with fail
          generalize wr.alloc (.cells #[.string ac, .bool al2, .bool am] 166) = v at *
          generalize wr.heap.size = p at *
          clear c0 c1 c2 HW HG HT
          go_loopw [5] (fun iv wr => ∃ (m : Nat) (tb : Nat → Nat), m ≤ ac.size ∧ iv = .int .i64 (m : Int) ∧ v.grownBy wr (some b) ∧ TRow wr b (some ⟨bb, off, none⟩) n cap al d u tb ∧ TurnTo f n k m tb) (fun iv _ => ac.size - (intOf iv).toNat)
          case atStart => exact ⟨0, tab, Nat.zero_le _, rfl, World.grownBy.refl _ _, W2.out, TB.out⟩
          case round =>
            obtain ⟨m, tb, hm, rfl, hgr, hrow, htb⟩ := hrel
            have HG3 : Hid (v.grownBy wr (some b)) := hgr
            have HW3 : Hid (TRow wr b (some ⟨bb, off, none⟩) n cap al d u tb) := hrow
            have HT3 : Hid (TurnTo f n k m tb) := htb
            have hpl := X2.out.lt
            have x0 : wr.cell? ⟨p, 0, none⟩ = some (.string ac) := by
              have h9 := hgr.block p hpl (fun e => hpb (by injection e))
              have h8 := X2.out.c0
              simpa [World.cell?, h9] using h8
            by_cases hml : m < ac.size
            · have hmi : (m : Int) < (ac.size : Int) := by omega
              have hm0 : (0 : Int) ≤ (m : Int) := by omega
              obtain ⟨x, hx⟩ : ∃ x, ac[m].toNat = x := ⟨_, rfl⟩
              have hx256 : x < 256 := by rw [← hx]; exact ac[m].toNat_lt
              have HT4 := HST.out m tb hml htb
              rw [hx] at HT4
              have HT5 : Hid (TurnTo f n k (m + 1) (fun j => if j = x then tb j ^^^ (tb j &&& 2 ^ k) else tb j)) := HT4
              have cx := hrow.tb x hx256
              have fx := hrow.fr (5 + x) (by omega)
              have hlb := hrow.lt
              have hx0 : (0 : Int) ≤ (x : Int) := by omega
              have hx1 : (x : Int) < 256 := by omega
              have hpw := wrap_powP (r := k) (by omega)
              have hor : bits .andNot .u64 (tb x : Int) ((2 ^ k : Nat) : Int) = ((tb x ^^^ (tb x &&& 2 ^ k) : Nat) : Int) := andNot64 (htb x hx256).lt
              have W5 : Hid (TRow (wr.setCell ⟨b, 5 + x, none⟩ (.int .u64 ((tb x ^^^ (tb x &&& 2 ^ k) : Nat) : Int))) b (some ⟨bb, off, none⟩) n cap al d u (fun j => if j = x then tb j ^^^ (tb j &&& 2 ^ k) else tb j)) := by
                have h9 := HW3.out.set hx256 (tb x ^^^ (tb x &&& 2 ^ k))
                refine ⟨h9.c0, h9.c1, h9.c2, h9.c3, fun j hj => ?_, h9.fr, h9.lt⟩
                rw [h9.tb j hj]
                by_cases e : j = x
                · subst e; simp
                · simp [e]
              generalize ((tb x ^^^ (tb x &&& 2 ^ k) : Nat) : Int) = z at *
              generalize ((2 ^ k : Nat) : Int) = P at *
              clear HT4 hgr hrow htb
              go_wp2_with fail
              go_region
              all_goals
                go_wp2_with fail
                go_roundw
                case rel => exact ⟨m + 1, _, by omega, by go_num, grown_drewT (only_setT HG3.out), W5.out.drew, HT5.out⟩
                case measure => simp [intOf]; omega
            · have hmi : ¬ (m : Int) < (ac.size : Int) := by omega
              obtain rfl : m = ac.size := by omega
              have HT6 : Hid (TurnAt f n (k + 1) tb) := HEN.out tb htb
              clear hgr hrow htb
              go_wp2_with fail
              go_roundw
              case rel => exact ⟨k + 1, tb, by omega, by go_num, G2.out.trans HG3.out, HW3.out, HT6.out⟩
              case measure => simp [intOf]; omega
        · have hki : ¬ (k : Int) < (n : Int) := by omega
          obtain rfl : k = n := by omega
          clear hgr hrow htab
          go_wp2_with fail
          go_end0
          exact ⟨rfl, HG.out, tab, HW.out, HT.out⟩
end Go.Proofs.Ytlgnplnmcdjbiaa
namespace Go.Proofs.Ytlgnplnmcdjbiaa
open Go.RowKit

theorem mkDisable (w : World) : (callFunc 224 #[]).run Try.prog w = .ok (.value (.tuple #[])) w := run_call_mark0 Try.func224 (by kernel_rfl) (by kernel_rfl) (by kernel_rfl) .disable (by kernel_rfl) w
theorem mkEnable (w : World) : (callFunc 226 #[]).run Try.prog w = .ok (.value (.tuple #[])) w := run_call_mark0 Try.func226 (by kernel_rfl) (by kernel_rfl) (by kernel_rfl) .enable (by kernel_rfl) w
theorem mkAcquire (a : Addr) (w : World) : (callFunc 227 #[.pointer (some a)]).run Try.prog w = .ok (.value (.tuple #[])) w := run_call_marked Try.func227 (by kernel_rfl) (by kernel_rfl) (by kernel_rfl) .acquire (by kernel_rfl) a w
theorem mkRelease (a : Addr) (w : World) : (callFunc 229 #[.pointer (some a)]).run Try.prog w = .ok (.value (.tuple #[])) w := run_call_marked Try.func229 (by kernel_rfl) (by kernel_rfl) (by kernel_rfl) .releaseMerge (by kernel_rfl) a w
theorem store_deferred (a : Addr) (x : Value) (u : FrameMode) (w : World) (hc : w.cell? a = some x) (hz : w.frozen? a = false) :
    CallsD Try.prog 214 #[.pointer (some a), .bool true] u w fun e u' w' => u' = u ∧ (e = .returned (.tuple #[]) ∧ w' = w.drew.setCell a (.int .u32 1)) := by
  have hc' : w.drew.cell? a = some x := by go_simp
  have hz' : w.drew.frozen? a = false := by go_simp
  have hst := run_call_store (P := Try.prog) Try.func221 (by kernel_rfl) (by kernel_rfl) (by kernel_rfl) (by kernel_rfl) (k := .u32) (y := 1) hc' hz'
  go_enter_d Try.func214, Try.ntmps214
  go_wp2
  go_region_calls
  all_goals (go_end0; exact ⟨rfl, rfl⟩)
set_option maxRecDepth 100000 in
set_option maxHeartbeats 1600000 in
theorem unlock_deferred (a : Addr) (u : FrameMode) (w : World) (hc : w.cell? a = some (.int .i32 1)) (hz : w.frozen? a = false) :
    CallsD Try.prog 213 #[.pointer (some a)] u w fun e u' w' => u' = u ∧ (e = .returned (.tuple #[]) ∧ w' = w.setCell a (.int .i32 0)) := by
  have hd := mkDisable
  have he := mkEnable
  have hr := mkRelease
  have hadd := run_call_add (P := Try.prog) Try.func230 (by kernel_rfl) (by kernel_rfl) (by kernel_rfl) .i32 (by kernel_rfl) (y := -1) (s := 0) hc hz (by simp [go_sem]; rfl)
  have hcv := run_convert_to_unsafe (P := Try.prog) (src := 241) (dst := 245) Try.underlying241 Try.underlying245 (by kernel_rfl) hc
  go_enter_d Try.func213, Try.ntmps213
  go_wp2
  go_end0
  go_wp2
  go_end0
  exact ⟨rfl, rfl⟩
set_option maxRecDepth 100000 in
set_option maxHeartbeats 1600000 in
theorem lock_free (a : Addr) (w : World) (hc : w.cell? a = some (.int .i32 0)) (hz : w.frozen? a = false) :
    Calls Try.prog 212 #[.pointer (some a)] w fun e w' => e = .returned (.tuple #[]) ∧ w' = w.setCell a (.int .i32 1) := by
  have hd := mkDisable
  have he := mkEnable
  have ha := mkAcquire
  have hcas := run_call_cas_hit (P := Try.prog) Try.func225 (by kernel_rfl) (by kernel_rfl) (by kernel_rfl) .i32 (by kernel_rfl) (y := 1) hc hz
  have hc' : (w.setCell a (.int .i32 1)).cell? a = some (.int .i32 1) := World.cell?_setCell_same w a _ hc
  have hcv := run_convert_to_unsafe (P := Try.prog) (src := 241) (dst := 245) Try.underlying241 Try.underlying245 (by kernel_rfl) hc'
  go_enter Try.func212, Try.ntmps212
  go_wp2
  first | go_end0 | (simp only [Exit.inBlock, Exit.then]; refine bodyPost_ret (results_none rfl _ _ _) rfl ?_) | refine bodyPost_ret (results_none rfl _ _ _) rfl ?_
  go_wp2
  go_end0
  exact ⟨rfl, rfl⟩
theorem do_done (a : Addr) (fv : Value) (w : World) (h0 : w.cell? a = some (.int .u32 1)) :
    Calls Try.prog 194 #[.pointer (some a), fv] w fun e w' => e = .returned (.tuple #[]) ∧ w' = w := by
  have hl := run_call_load (P := Try.prog) Try.func211 (by kernel_rfl) (by kernel_rfl) (by kernel_rfl) .u32 (by kernel_rfl) h0
  have hnot : ∀ (x : Bool) (w : World), (Op.unary .not (.bool x)).run Try.prog w = .ok (.bool (!x)) w := fun _ _ => rfl
  have hd' : ((1 : Int) != 0) = true := by simp
  go_enter Try.func194, Try.ntmps194
  go_wp2
  go_end0
  exact ⟨rfl, rfl⟩
end Go.Proofs.Ytlgnplnmcdjbiaa
namespace Go.Proofs.Ytlgnplnmcdjbiaa
open Go.RowKit

set_option maxRecDepth 100000 in
set_option maxHeartbeats 4000000 in
theorem turnSlow_any (b : Nat) (sa : Option Addr) (n cap : Nat) (f : Nat → Cel) (w : World) (hn : n ≤ 60) (hsz : ∀ i, i < n → (f i).c.size ≤ 256) (hr : CRow w b sa n f) (hk : TRow w b sa n cap (2 ^ n - 1) 0 0 (fun _ => 0)) :
    Calls Try.prog 205 #[.pointer (some ⟨b, 2, none⟩), .func (.func 195) #[.pointer (some ⟨b, 0, none⟩)] #[]] w fun e w' => ∃ tab : Nat → Nat, e = .returned (.tuple #[]) ∧ w.grownBy w' (some b) ∧ TRow w' b sa n cap (2 ^ n - 1) 1 0 tab ∧ TurnAt f n n tab := by
  have k1 := hk.lock 1
  have g1 : w.grownBy (w.setCell ⟨b, 3, none⟩ (.int .i32 1)) (some b) := only_setT (World.grownBy.refl _ _)
  have r1 := cells_grownT hr g1 hk.lt
  have hl := run_call_load (P := Try.prog) Try.func211 (by kernel_rfl) (by kernel_rfl) (by kernel_rfl) .u32 (by kernel_rfl) (w := w.setCell ⟨b, 3, none⟩ (.int .i32 1)) (a := ⟨b, 2, none⟩) (x := 0) k1.c2
  have hnot : ∀ (x : Bool) (w : World), (Op.unary .not (.bool x)).run Try.prog w = .ok (.bool (!x)) w := fun _ _ => rfl
  have FC := turnFill_any b sa n cap 0 1 f (w.setCell ⟨b, 3, none⟩ (.int .i32 1)) hn hsz r1 k1
  have c4 := hk.c3
  have f4 := hk.fr 3 (by omega)
  have G1 : Hid (w.grownBy (w.setCell ⟨b, 3, none⟩ (.int .i32 1)) (some b)) := g1
  clear k1 r1 hr hk hsz g1
  go_enter_defers Try.func205, Try.ntmps205
  go_wp2_with (first | (go_at_call 212; refine (lock_free ⟨b, 3, none⟩ _ (by first | exact c4 | go_simp) (by first | exact f4 | go_simp)).mono ?_; rintro e w' ⟨rfl, rfl⟩) | (go_at_call 204; go_in))
  refine FC.mono ?_
  rintro e w1 ⟨tab, rfl, hg, hk1, htab⟩
  have G2 : Hid (w.grownBy w1 (some b)) := G1.out.trans hg
  have HT : Hid (TurnAt f n n tab) := htab
  have HK1 : Hid (TRow w1 b sa n cap (2 ^ n - 1) 0 1 tab) := hk1
  clear hg hk1 htab FC hl
  go_wp2_with fail
  refine leaves_cons (f := 214) (args := #[.pointer (some ⟨b, 2, none⟩), .bool true]) (by simp) (by simp [go_sem]) ?_
  refine (store_deferred ⟨b, 2, none⟩ (.int .u32 0) .returning _ HK1.out.c2 (HK1.out.fr 2 (by omega))).mono ?_
  rintro e u' w2 ⟨rfl, rfl, rfl⟩
  have HK2 := HK1.out.drew.done 1
  have G3 : Hid (w.grownBy (w1.drew.setCell ⟨b, 2, none⟩ (.int .u32 1)) (some b)) := only_setT (grown_drewT G2.out)
  refine leaves_cons (f := 213) (args := #[.pointer (some ⟨b, 3, none⟩)]) (by simp [settle]) (by simp [go_sem]) ?_
  refine (unlock_deferred ⟨b, 3, none⟩ _ _ HK2.c3 (HK2.fr 3 (by omega))).mono ?_
  rintro e u' w3 ⟨rfl, rfl, rfl⟩
  have FIN : ∃ tab : Nat → Nat, Ending.returned (.tuple #[]) = .returned (.tuple #[]) ∧ w.grownBy ((w1.drew.setCell ⟨b, 2, none⟩ (.int .u32 1)).setCell ⟨b, 3, none⟩ (.int .i32 0)) (some b) ∧ TRow ((w1.drew.setCell ⟨b, 2, none⟩ (.int .u32 1)).setCell ⟨b, 3, none⟩ (.int .i32 0)) b sa n cap (2 ^ n - 1) 1 0 tab ∧ TurnAt f n n tab := ⟨tab, rfl, only_setT G3.out, HK2.lock 0, HT.out⟩
  simp [Leaves, settle, results, Try.results205]
  simpa using FIN
set_option maxRecDepth 100000 in
set_option maxHeartbeats 1600000 in
theorem turnDo_first (b : Nat) (sa : Option Addr) (n cap : Nat) (f : Nat → Cel) (w : World) (hn : n ≤ 60) (hsz : ∀ i, i < n → (f i).c.size ≤ 256) (hr : CRow w b sa n f) (hk : TRow w b sa n cap (2 ^ n - 1) 0 0 (fun _ => 0)) :
    Calls Try.prog 194 #[.pointer (some ⟨b, 2, none⟩), .func (.func 195) #[.pointer (some ⟨b, 0, none⟩)] #[]] w fun e w' => ∃ tab : Nat → Nat, e = .returned (.tuple #[]) ∧ w.grownBy w' (some b) ∧ TRow w' b sa n cap (2 ^ n - 1) 1 0 tab ∧ TurnAt f n n tab := by
  have hl := run_call_load (P := Try.prog) Try.func211 (by kernel_rfl) (by kernel_rfl) (by kernel_rfl) .u32 (by kernel_rfl) hk.c2
  have hnot : ∀ (x : Bool) (w : World), (Op.unary .not (.bool x)).run Try.prog w = .ok (.bool (!x)) w := fun _ _ => rfl
  have SL := turnSlow_any b sa n cap f w hn hsz hr hk
  clear hr hk hsz
  go_enter Try.func194, Try.ntmps194
  go_wp2_with (first | (go_at_call 204; go_in))
  refine SL.mono ?_
  rintro e w1 ⟨tab, rfl, hg, hk1, htab⟩
  have HH : Hid (w.grownBy w1 (some b) ∧ TRow w1 b sa n cap (2 ^ n - 1) 1 0 tab ∧ TurnAt f n n tab) := ⟨hg, hk1, htab⟩
  clear hg hk1 htab SL hl
  go_wp2_with fail
  go_end0
  first | exact ⟨rfl, HH.out.1, tab, HH.out.2⟩ | exact ⟨tab, rfl, HH.out⟩
/-- A turned row that is ready: its table is not made yet, or it is made. -/
def TReady (W : World) (b : Nat) (sa : Option Addr) (n cap : Nat) (f : Nat → Cel) : Prop := TRow W b sa n cap (2 ^ n - 1) 0 0 (fun _ => 0) ∨ ∃ tab, TRow W b sa n cap (2 ^ n - 1) 1 0 tab ∧ TurnAt f n n tab
theorem TReady.cells {W : World} {b : Nat} {sa : Option Addr} {n cap : Nat} {f : Nat → Cel} (h : TReady W b sa n cap f) : W.cell? ⟨b, 0, none⟩ = some (.slice sa n cap) ∧ W.cell? ⟨b, 1, none⟩ = some (.int .u64 ((2 ^ n - 1 : Nat) : Int)) ∧ b < W.heap.size := by
  rcases h with h | ⟨tab, h, _⟩
  · exact ⟨h.c0, h.c1, h.lt⟩
  · exact ⟨h.c0, h.c1, h.lt⟩
theorem TReady.kept {W W' : World} {B b : Nat} {sa : Option Addr} {n cap : Nat} {f : Nat → Cel} (h : TReady W b sa n cap f) (hb : Below B W W') (hB : b < B) : TReady W' b sa n cap f := by
  rcases h with h | ⟨tab, h, h2⟩
  · exact Or.inl (h.kept hb hB)
  · exact Or.inr ⟨tab, h.kept hb hB, h2⟩
set_option maxRecDepth 100000 in
set_option maxHeartbeats 1600000 in
theorem lacking_any (b : Nat) (sa : Option Addr) (n cap c : Nat) (f : Nat → Cel) (w : World) (hn : n ≤ 60) (hc : c < 256) (hsz : ∀ i, i < n → (f i).c.size ≤ 256) (hr : CRow w b sa n f) (hk : TReady w b sa n cap f) :
    Calls Try.prog 145 #[.pointer (some ⟨b, 0, none⟩), .int .u8 (c : Int)] w fun e w' => ∃ x : Nat, e = .returned (.int .u64 (x : Int)) ∧ IsBits x (lackB f n c) ∧ TReady w' b sa n cap f ∧ w.grownBy w' (some b) := by
  have hmf : ∀ (fn : Fn) (first cap : Array Value) (w : World), (Instr.makeFunc fn first cap).run Try.prog w = .ok (.func fn first cap) w := fun _ _ _ _ => rfl
  have hc0 : (0 : Int) ≤ (c : Int) := by omega
  have hc1 : (c : Int) < 256 := by omega
  rcases hk with hk | ⟨tab, hk, ht⟩
  · have DO := turnDo_first b sa n cap f w hn hsz hr hk
    have hlt := hk.lt
    clear hr hk hsz
    go_enter Try.func145, Try.ntmps145
    go_wp2_with fail
    refine DO.mono ?_
    rintro e w1 ⟨tab, rfl, hg, hk1, htab⟩
    have HH : Hid (IsBits (tab c) (lackB f n c) ∧ TReady w1 b sa n cap f ∧ w.grownBy w1 (some b)) := ⟨turnAt_lack htab hc, Or.inr ⟨tab, hk1, htab⟩, hg⟩
    have cx := hk1.tb c hc
    have hlt1 := hk1.lt
    clear DO hg hk1 htab
    go_wp2_with fail
    go_ret
    exact ⟨tab c, rfl, HH.out⟩
  · have DO := do_done ⟨b, 2, none⟩ (.func (.func 195) #[.pointer (some ⟨b, 0, none⟩)] #[]) w hk.c2
    have hlt := hk.lt
    have cx := hk.tb c hc
    have HH : Hid (IsBits (tab c) (lackB f n c) ∧ TReady w b sa n cap f) := ⟨turnAt_lack ht hc, Or.inr ⟨tab, hk, ht⟩⟩
    clear hr hk hsz ht
    go_enter Try.func145, Try.ntmps145
    go_wp2_with fail
    refine DO.mono ?_
    rintro e w1 ⟨rfl, hw⟩
    rw [hw]
    clear DO hw w1
    go_wp2_with fail
    go_ret
    exact ⟨tab c, rfl, HH.out.1, HH.out.2, World.grownBy.refl _ _⟩
end Go.Proofs.Ytlgnplnmcdjbiaa
