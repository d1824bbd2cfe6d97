/- What is said here: vectors in memory: a vector in new memory, how what is owned stays.
   What is proved here: the specification's EndsOf hands back the ends of a right pattern, rising, in new memory, or none; nothing that was there turns.
   What is said here: the map of what is known of places: what it holds is how far one gets. -/
import Derived.Test.YtfeolbgenpknfaaQSpecPYesWToIntRowW
import Derived.Test.YtfeolbgenpknfaaQSpecEndsW
import Derived.Test.YtfeolbgenpknfaaQMeanM
import Derived.Test.YtfeolbgenpknfaaQAtomSToDrawPatW
import Derived.Maps.OwnSet
import Derived.Maps.OwnOps
import Derived.DeepKeys4
namespace Go.Proofs.Ytfeolbgenpknfaa
open Go.RowKit

/-- A vector's value. -/
def vecV (b : Int) (sa : Option Addr) (n cap : Nat) : Value := .agg #[.int .i64 b, .slice sa n cap]
/-- A vector in new memory. -/
def NewVec (w : World) (b : Int) (n : Nat) (f : Nat → Int) (e : Ending) (w' : World) : Prop :=
  ∃ (sa : Option Addr) (cap : Nat), e = .returned (vecV b sa n cap) ∧ Below w.heap.size w w' ∧ OwnS w' w.heap.size sa n f

theorem bcells {W w1 : World} (hb : Below W.heap.size W w1) : (∀ b o, b < W.heap.size → w1.cell? ⟨b, o, none⟩ = W.cell? ⟨b, o, none⟩) ∧ (∀ b o, b < W.heap.size → w1.frozen? ⟨b, o, none⟩ = W.frozen? ⟨b, o, none⟩) :=
  ⟨fun b o h => hb.cell (p := ⟨b, o, none⟩) h, fun b o h => hb.frozen (p := ⟨b, o, none⟩) h⟩
theorem Own.setOther {w : World} {g n : Nat} {f : Nat → Int} (h : Own w g n f) (p : Addr) (v : Value) (hne : p.block ≠ g) : Own (w.setCell p v) g n f := by
  refine ⟨by simpa [World.setCell] using h.1, fun i hi => ?_, fun i hi => ?_⟩
  · rw [World.cell?_setCell_other _ _ _ _ (fun hh => hne (by rw [hh]))]
    exact h.2.1 i hi
  · rw [World.frozen?_setCell]
    exact h.2.2 i hi
theorem Own.alloc {w : World} {g n : Nat} {f : Nat → Int} (h : Own w g n f) (o : Obj) : Own (w.alloc o) g n f :=
  h.kept (B := w.heap.size) ((Below.refl _ _).alloc (Nat.le_refl _) _) h.1
theorem OwnS.kept {w w' : World} {B lo n : Nat} {sa : Option Addr} {f : Nat → Int} (h : OwnS w lo sa n f) (hb : Below B w w') (hB : B = w.heap.size) : OwnS w' lo sa n f := by
  rcases h with h | ⟨g, h1, h2, h3⟩
  · exact Or.inl h
  · exact Or.inr ⟨g, h1, h2, h3.kept hb (by rw [hB]; exact h3.1)⟩
theorem OwnS.row {w : World} {lo n : Nat} {sa : Option Addr} {f : Nat → Int} (h : OwnS w lo sa n f) : Row w w.heap.size sa n f := by
  rcases h with h | ⟨g, rfl, _, h3⟩
  · exact Or.inl h
  · exact h3.row h3.1
theorem OwnS.congr {w : World} {lo n : Nat} {sa : Option Addr} {f f' : Nat → Int} (h : OwnS w lo sa n f) (he : ∀ i, i < n → f i = f' i) : OwnS w lo sa n f' := by
  rcases h with h | ⟨g, h1, h2, h3⟩
  · exact Or.inl h
  · exact Or.inr ⟨g, h1, h2, h3.congr he⟩
theorem OwnS.low {w : World} {lo lo' n : Nat} {sa : Option Addr} {f : Nat → Int} (h : OwnS w lo sa n f) (hl : lo' ≤ lo) : OwnS w lo' sa n f := by
  rcases h with h | ⟨g, h1, h2, h3⟩
  · exact Or.inl h
  · exact Or.inr ⟨g, h1, by omega, h3⟩
/-- Another slice's block turned: this one stays. -/
theorem OwnS.other {w w' : World} {lo n m : Nat} {sa sb : Option Addr} {f : Nat → Int} (h : OwnS w lo sa n f) (ho : OnlyS w w' sb m) (hne : ∀ g, sb = some ⟨g, 0, none⟩ → 0 < m → sa ≠ some ⟨g, 0, none⟩) : OwnS w' lo sa n f := by
  rcases h with h | ⟨g, rfl, h2, h3⟩
  · exact Or.inl h
  · obtain ⟨row, hg, hr⟩ := ho
    refine Or.inr ⟨g, rfl, h2, ?_⟩
    have hb := hg.block g h3.1 (fun e => by obtain ⟨h4, h5⟩ := hr g e.symm; exact hne g h5 h4 rfl)
    refine ⟨Nat.lt_of_lt_of_le h3.1 hg.size, fun i hi => ?_, fun i hi => ?_⟩
    · have := h3.2.1 i hi
      simpa [World.cell?, hb] using this
    · have := h3.2.2 i hi
      simpa [World.frozen?, hb] using this
/-- A turned block from lo on: what lies below stays. -/
theorem OnlyS.below {w w' : World} {lo n : Nat} {sa : Option Addr} (h : OnlyS w w' sa n) (hl : ∀ g, sa = some ⟨g, 0, none⟩ → 0 < n → lo ≤ g) (hs : lo ≤ w.heap.size) : Below lo w w' := by
  obtain ⟨row, hg, hr⟩ := h
  exact ⟨hg.os, hg.tape, hg.output, hg.size, fun k hk => hg.block k (by omega) (fun e => by
    obtain ⟨h4, h5⟩ := hr k e.symm
    have := hl k h5 h4
    omega)⟩
theorem OwnS.lo {w : World} {lo n : Nat} {sa : Option Addr} {f : Nat → Int} (h : OwnS w lo sa n f) : ∀ g, sa = some ⟨g, 0, none⟩ → 0 < n → lo ≤ g ∧ g < w.heap.size := by
  intro g hg hn
  rcases h with h | ⟨g', h1, h2, h3⟩
  · omega
  · rw [h1] at hg
    injection hg with hg
    injection hg with hg
    subst hg
    exact ⟨h2, h3.1⟩
end Go.Proofs.Ytfeolbgenpknfaa
namespace Go.Proofs.Ytfeolbgenpknfaa
open Go.RowKit

set_option maxHeartbeats 1000000 in
theorem specEnds_yes (sa : Option Addr) (n cap : Nat) (f : Nat → Atm) (t : ByteArray) (p : Nat → Bool) (w : World) (hn : n ≤ maxLen) (hr : ARow w w.heap.size sa n f) (hc : ∀ i, i < n → (f i).c.size ≤ maxLen) (ht : t.size ≤ 8000) (hP : PatRight n f) (hp : ∀ e, e ≤ t.size → (p e = true ↔ ∃ s, s < e ∧ Cuts t (atomsL f n) s e)) :
    Calls Try.prog 17 #[.slice sa n cap, .string t] w fun r w' => NewInts w (classL p (t.size + 1)).length (fun i => (classL p (t.size + 1)).getD i 0) r w' := by
  have C := specPRight_yes sa n cap f w hn hr hc hP
  have HP : Hid (PatRight n f) := hP
  have HR : Hid (ARow w w.heap.size sa n f) := hr
  have HQ : Hid (∀ e, e ≤ t.size → (p e = true ↔ ∃ s, s < e ∧ Cuts t (atomsL f n) s e)) := hp
  have h8 : ¬ 8000 < (t.size : Int) := by omega
  clear hn hr hc hP hp
  go_enter Try.func17, Try.ntmps17
  go_wp2_with fail
  refine C.mono ?_
  rintro r w1 ⟨rfl, hb1⟩
  have B1 : Hid (Below w.heap.size w w1) := hb1
  clear hb1 C
  go_wp2_with fail
  refine (l05Ends_any sa n cap f t p w1 HP.out.2.1 (HR.out.late B1.out) ht HP.out.2.2.1 HQ.out).mono ?_
  rintro r w2 ⟨s2, c2, rfl, hb2, ho2⟩
  have N2 : Hid (NewInts w (classL p (t.size + 1)).length (fun i => (classL p (t.size + 1)).getD i 0) (.returned (.slice s2 (classL p (t.size + 1)).length c2)) w2) := ⟨s2, c2, rfl, B1.out.trans (hb2.mono B1.out.size), ho2.low B1.out.size⟩
  clear hb2 ho2
  go_wp2_with fail
  go_ret
  exact N2.out
set_option maxHeartbeats 1000000 in
theorem specEnds_no (sa : Option Addr) (n cap : Nat) (f : Nat → Atm) (t : ByteArray) (w : World) (hn : n ≤ maxLen) (hr : ARow w w.heap.size sa n f) (hc : ∀ i, i < n → (f i).c.size ≤ maxLen) (ht : t.size ≤ maxLen) (h : ¬ (t.size ≤ 8000 ∧ PatRight n f)) :
    Calls Try.prog 17 #[.slice sa n cap, .string t] w fun r w' => NewInts w 0 (fun _ => 0) r w' := by
  unfold maxLen at ht
  have NI : Hid (∀ W x, Below w.heap.size w W → NewInts w 0 (fun _ => 0) (.returned (.slice x 0 0)) W) := fun W x hb => ⟨x, 0, rfl, hb, Or.inl rfl⟩
  by_cases h8 : 8000 < (t.size : Int)
  · go_enter Try.func17, Try.ntmps17
    go_wp2_with fail
    go_ret
    exact NI.out _ _ ((Below.refl _ _).alloc (Nat.le_refl _) _)
  have hP : ¬ PatRight n f := fun hp => h ⟨by omega, hp⟩
  have C := specPRight_no sa n cap f w hn hr hc hP
  clear hn hr hc hP h
  go_enter Try.func17, Try.ntmps17
  go_wp2_with fail
  refine C.mono ?_
  rintro r w1 ⟨rfl, hb1⟩
  have B1 : Hid (Below w.heap.size w w1) := hb1
  clear hb1 C
  go_wp2_with fail
  go_ret
  exact NI.out _ _ (B1.out.alloc B1.out.size _)
end Go.Proofs.Ytfeolbgenpknfaa
namespace Go.Proofs.Ytfeolbgenpknfaa
open Go.RowKit Go.Maps
set_option maxRecDepth 100000

theorem Try.laidOut : laidOutB Try.prog = true := by kernel_rfl
theorem Try.askRow : (129 : TypeId) < Try.prog.types.size := of_decide_eq_true (by kernel_rfl)
theorem Try.askWide : (match Try.prog.underlying 129 with | some (.array _ _) | some (.struct _) => true | _ => false) = true := by kernel_rfl
theorem askLaw : Keyed Try.prog 129 := Keyed.of_law (deep_law_laid Try.laidOut (m := 2) (by omega) Try.askRow (by kernel_rfl) Try.askWide)
theorem Try.askType : Try.prog.keyType 129 = true := by kernel_rfl
theorem Try.askCells : Try.prog.cellsOf 129 = 2 := by kernel_rfl
theorem Try.intCells : Try.prog.cellsOf 3 = 1 := by kernel_rfl
theorem Try.typesSize : ∃ m, Try.prog.types.size = m + 1 := ⟨Try.prog.types.size - 1, (Nat.succ_pred_eq_of_pos (Nat.lt_of_le_of_lt (Nat.zero_le _) Try.askRow)).symm⟩
/-- The key of a question. -/
def askV (a b : Int) : Value := .agg #[.int .i64 a, .int .i64 b]
def askL (a b : Int) : Lit := .string (keyBytes [.int .i64 a, .int .i64 b])
theorem ask_key {a b : Int} (ha : (Lit.int .i64 a).wf = true) (hb : (Lit.int .i64 b).wf = true) : keyOf Try.prog 129 (askV a b) = some (askL a b) := by
  obtain ⟨m, hm⟩ := Try.typesSize
  unfold keyOf askV
  simp only [Try.underlying129]
  rw [if_pos (by simp [Try.askType, Value.formed, Try.underlying129, Try.askCells]), hm]
  unfold Program.keyLits
  simp only [Try.underlying129, Value.cells]
  rw [if_pos (by rw [Try.askCells]; exact ⟨rfl, by kernel_rfl⟩)]
  simp [Try.intCells, Program.keyLits, Try.underlying3, ha, hb, askL]
theorem wf_nat {a : Nat} (h : a < 9223372036854775808) : (Lit.int .i64 (a : Int)).wf = true := WalkArith.wf_i64 (by omega)
theorem ask_ne {a b c d : Nat} (ha : a < 1000000) (hb : b < 1000000) (hc : c < 1000000) (hd : d < 1000000) (h : ¬ (a = c ∧ b = d)) : askL (a : Int) (b : Int) ≠ askL (c : Int) (d : Int) := by
  intro e
  have k1 := ask_key (wf_nat (a := a) (by omega)) (wf_nat (a := b) (by omega))
  have k2 := ask_key (wf_nat (a := c) (by omega)) (wf_nat (a := d) (by omega))
  rw [← e] at k2
  have := askLaw.inj k1 k2
  unfold askV at this
  simp at this
  omega
/-- How many are on. -/
def cntTo (p : Nat → Bool) : Nat → Nat
  | 0 => 0
  | n + 1 => cntTo p n + (if p n then 1 else 0)
theorem cntTo_le (p : Nat → Bool) : ∀ n, cntTo p n ≤ n
  | 0 => Nat.le_refl _
  | n + 1 => by have := cntTo_le p n; unfold cntTo; split <;> omega
theorem cntTo_new {p q : Nat → Bool} {j : Nat} (hp : p j = false) (hq : q j = true) : ∀ n, (∀ i, i < n → i ≠ j → q i = p i) → cntTo q n = cntTo p n + (if j < n then 1 else 0)
  | 0, _ => by simp [cntTo]
  | n + 1, h => by
    have ih := cntTo_new hp hq n (fun i hi => h i (by omega))
    unfold cntTo
    rw [ih]
    by_cases e : n = j
    · subst e
      rw [hp, hq]
      simp
    · rw [h n (by omega) e]
      by_cases h1 : j < n
      · rw [if_pos h1, if_pos (show j < n + 1 by omega)]; omega
      · rw [if_neg h1, if_neg (show ¬ j < n + 1 by omega)]; omega
/-- Which places are known: those of atom i, place s at i * 10000 + s. -/
def knownAt (D : DataW Unit) (j : Nat) : Bool := Maps.has D (askL ((j / 10000 : Nat) : Int) ((j % 10000 : Nat) : Int))
/-- The map in its block, and what it holds is so. -/
structure Memo (t : ByteArray) (ps : List Atm) (B : Nat) (W : World) : Prop where
  ex : ∃ D : DataW Unit, W.ownsMap Try.prog 129 (plainElem Try.prog 3) B (cntTo (knownAt D) 1000000) D ∧ ∀ i s : Nat, i < 100 → s < 10000 → Maps.has D (askL (i : Int) (s : Int)) = true → ∃ v : Int, D.atKey (askL (i : Int) (s : Int)) (.lit (.int .i64 0)) = .lit (.int .i64 v) ∧ Far t (ps.drop i) s v
/-- All but the map's block is as it was. -/
structure Turn (B : Nat) (W W' : World) : Prop where
  g : W.grownBy W' (some B)
theorem Turn.refl (B : Nat) (W : World) : Turn B W W := ⟨⟨rfl, rfl, rfl, Nat.le_refl _, fun _ _ _ => rfl⟩⟩
theorem Turn.trans {B : Nat} {W W' W'' : World} (h : Turn B W W') (h2 : Turn B W' W'') : Turn B W W'' :=
  ⟨⟨h2.g.os.trans h.g.os, h2.g.tape.trans h.g.tape, h2.g.output.trans h.g.output, Nat.le_trans h.g.size h2.g.size, fun k hk hne => (h2.g.block k (Nat.lt_of_lt_of_le hk h.g.size) hne).trans (h.g.block k hk hne)⟩⟩
theorem Turn.below {B lo : Nat} {W W' : World} (h : Turn B W W') (hB : lo ≤ B) (hlo : lo ≤ W.heap.size) : Below lo W W' :=
  ⟨h.g.os, h.g.tape, h.g.output, h.g.size, fun k hk => h.g.block k (by omega) (fun e => by injection e with e; omega)⟩
theorem Turn.of {B : Nat} {W W' : World} (h : Below W.heap.size W W') : Turn B W W' := ⟨grown_of_below h⟩
theorem Turn.cell {B : Nat} {W W' : World} (h : Turn B W W') {bb o : Nat} (hlt : bb < W.heap.size) (hne : bb ≠ B) : W'.cell? ⟨bb, o, none⟩ = W.cell? ⟨bb, o, none⟩ := by
  have := h.g.block bb hlt (fun e => hne (by injection e))
  simp [World.cell?, this]
theorem Turn.size {B : Nat} {W W' : World} (h : Turn B W W') : W.heap.size ≤ W'.heap.size := h.g.size
theorem Memo.late {t : ByteArray} {ps : List Atm} {B : Nat} {W W' : World} (h : Memo t ps B W) (hb : Below W.heap.size W W') : Memo t ps B W' := by
  obtain ⟨D, h1, h2⟩ := h.ex
  exact ⟨D, h1.kept (row := none) (grown_of_below hb) (by simp), h2⟩
theorem Memo.lt {t : ByteArray} {ps : List Atm} {B : Nat} {W : World} (h : Memo t ps B W) : B < W.heap.size := by
  obtain ⟨D, h1, h2⟩ := h.ex
  exact h1.lt
theorem memo_new (t : ByteArray) (ps : List Atm) (W : World) : Memo t ps W.heap.size (W.alloc (.map #[] 0)) := by
  refine ⟨.map [], ?_, fun i s _ _ h => by simp [Maps.has] at h⟩
  have h0 : ∀ n, cntTo (knownAt (.map [])) n = 0 := fun n => by
    induction n with
    | zero => rfl
    | succ n ih => unfold cntTo; rw [ih]; simp [knownAt, Maps.has]
  rw [h0]
  exact World.ownsMap_made _ _ _ _
/-- What is stored is so. -/
theorem memo_put {t : ByteArray} {ps : List Atm} {B i s : Nat} {W : World} {v : Int} {D : DataW Unit} (hi : i < 100) (hs : s < 10000) (hno : Maps.has D (askL (i : Int) (s : Int)) = false)
    (hD : ∀ i s : Nat, i < 100 → s < 10000 → Maps.has D (askL (i : Int) (s : Int)) = true → ∃ v : Int, D.atKey (askL (i : Int) (s : Int)) (.lit (.int .i64 0)) = .lit (.int .i64 v) ∧ Far t (ps.drop i) s v) (hM : IsMap D)
    (hf : Far t (ps.drop i) s v) (hown : W.ownsMap Try.prog 129 (plainElem Try.prog 3) B (cntTo (knownAt D) 1000000 + 1) (D.put (askL (i : Int) (s : Int)) (.lit (.int .i64 v)))) : Memo t ps B W := by
  have hk : WideAt.IsKeyLit (askL (i : Int) (s : Int)) := askLaw.key (ask_key (wf_nat (a := i) (by omega)) (wf_nat (a := s) (by omega)))
  refine ⟨D.put (askL (i : Int) (s : Int)) (.lit (.int .i64 v)), ?_, fun i' s' hi' hs' h => ?_⟩
  · have hj : i * 10000 + s < 1000000 := by omega
    have hd : (i * 10000 + s) / 10000 = i := by omega
    have hr : (i * 10000 + s) % 10000 = s := by omega
    have hc := cntTo_new (p := knownAt D) (q := knownAt (D.put (askL (i : Int) (s : Int)) (.lit (.int .i64 v)))) (j := i * 10000 + s) (by unfold knownAt; rw [hd, hr]; exact hno) (by unfold knownAt; rw [hd, hr]; exact has_put_same hM hk _) 1000000 (fun j hjl hne => by
      unfold knownAt
      exact has_put_other (ask_ne (by omega) (by omega) (by omega) (by omega) (by omega)) _)
    rw [hc, if_pos hj]
    exact hown
  · by_cases e : i' = i ∧ s' = s
    · obtain ⟨rfl, rfl⟩ := e
      exact ⟨v, atKey_put_same hM hk _ _, hf⟩
    · have hne := ask_ne (a := i') (b := s') (c := i) (d := s) (by omega) (by omega) (by omega) (by omega) e
      rw [has_put_other hne] at h
      rw [atKey_put_other hne]
      exact hD i' s' hi' hs' h
end Go.Proofs.Ytfeolbgenpknfaa
