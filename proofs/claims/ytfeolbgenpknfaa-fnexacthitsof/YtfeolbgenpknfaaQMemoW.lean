/- What is said here: the map of what is known of places: what it holds is how far one gets. -/
import Derived.Test.YtfeolbgenpknfaaQMeanM
import Derived.Test.YtfeolbgenpknfaaQAtomSToMarkTextW
import Derived.Maps.OwnSet
import Derived.Maps.OwnOps
import Derived.DeepKeys4
namespace Go.Proofs.Ytfeolbgenpknfaa
open Go.RowKit Go.Maps
set_option maxRecDepth 100000

theorem Try.laidOut : laidOutB Try.prog = true := by kernel_rfl
theorem Try.askRow : (129 : TypeId) < Try.prog.types.size := of_decide_eq_true (by kernel_rfl)
theorem Try.askWide : (match Try.prog.underlying 129 with | some (.array _ _) | some (.struct _) => true | _ => false) = true := by kernel_rfl
theorem askLaw : Keyed Try.prog 129 := Keyed.of_law (deep_law_laid Try.laidOut (m := 2) (by omega) Try.askRow (by kernel_rfl) Try.askWide)
theorem Try.askType : Try.prog.keyType 129 = true := by kernel_rfl
theorem Try.askCells : Try.prog.cellsOf 129 = 2 := by kernel_rfl
theorem Try.intCells : Try.prog.cellsOf 3 = 1 := by kernel_rfl
theorem Try.typesSize : ∃ m, Try.prog.types.size = m + 1 := ⟨Try.prog.types.size - 1, (Nat.succ_pred_eq_of_pos (Nat.lt_of_le_of_lt (Nat.zero_le _) Try.askRow)).symm⟩
/-- The key of a question. -/
def askV (a b : Int) : Value := .agg #[.int .i64 a, .int .i64 b]
def askL (a b : Int) : Lit := .string (keyBytes [.int .i64 a, .int .i64 b])
theorem ask_key {a b : Int} (ha : (Lit.int .i64 a).wf = true) (hb : (Lit.int .i64 b).wf = true) : keyOf Try.prog 129 (askV a b) = some (askL a b) := by
  obtain ⟨m, hm⟩ := Try.typesSize
  unfold keyOf askV
  simp only [Try.underlying129]
  rw [if_pos (by simp [Try.askType, Value.formed, Try.underlying129, Try.askCells]), hm]
  unfold Program.keyLits
  simp only [Try.underlying129, Value.cells]
  rw [if_pos (by rw [Try.askCells]; exact ⟨rfl, by kernel_rfl⟩)]
  simp [Try.intCells, Program.keyLits, Try.underlying3, ha, hb, askL]
theorem wf_nat {a : Nat} (h : a < 9223372036854775808) : (Lit.int .i64 (a : Int)).wf = true := WalkArith.wf_i64 (by omega)
theorem ask_ne {a b c d : Nat} (ha : a < 1000000) (hb : b < 1000000) (hc : c < 1000000) (hd : d < 1000000) (h : ¬ (a = c ∧ b = d)) : askL (a : Int) (b : Int) ≠ askL (c : Int) (d : Int) := by
  intro e
  have k1 := ask_key (wf_nat (a := a) (by omega)) (wf_nat (a := b) (by omega))
  have k2 := ask_key (wf_nat (a := c) (by omega)) (wf_nat (a := d) (by omega))
  rw [← e] at k2
  have := askLaw.inj k1 k2
  unfold askV at this
  simp at this
  omega
/-- How many are on. -/
def cntTo (p : Nat → Bool) : Nat → Nat
  | 0 => 0
  | n + 1 => cntTo p n + (if p n then 1 else 0)
theorem cntTo_le (p : Nat → Bool) : ∀ n, cntTo p n ≤ n
  | 0 => Nat.le_refl _
  | n + 1 => by have := cntTo_le p n; unfold cntTo; split <;> omega
theorem cntTo_new {p q : Nat → Bool} {j : Nat} (hp : p j = false) (hq : q j = true) : ∀ n, (∀ i, i < n → i ≠ j → q i = p i) → cntTo q n = cntTo p n + (if j < n then 1 else 0)
  | 0, _ => by simp [cntTo]
  | n + 1, h => by
    have ih := cntTo_new hp hq n (fun i hi => h i (by omega))
    unfold cntTo
    rw [ih]
    by_cases e : n = j
    · subst e
      rw [hp, hq]
      simp
    · rw [h n (by omega) e]
      by_cases h1 : j < n
      · rw [if_pos h1, if_pos (show j < n + 1 by omega)]; omega
      · rw [if_neg h1, if_neg (show ¬ j < n + 1 by omega)]; omega
/-- Which places are known: those of atom i, place s at i * 10000 + s. -/
def knownAt (D : DataW Unit) (j : Nat) : Bool := Maps.has D (askL ((j / 10000 : Nat) : Int) ((j % 10000 : Nat) : Int))
/-- The map in its block, and what it holds is so. -/
structure Memo (t : ByteArray) (ps : List Atm) (B : Nat) (W : World) : Prop where
  ex : ∃ D : DataW Unit, W.ownsMap Try.prog 129 (plainElem Try.prog 3) B (cntTo (knownAt D) 1000000) D ∧ ∀ i s : Nat, i < 100 → s < 10000 → Maps.has D (askL (i : Int) (s : Int)) = true → ∃ v : Int, D.atKey (askL (i : Int) (s : Int)) (.lit (.int .i64 0)) = .lit (.int .i64 v) ∧ Far t (ps.drop i) s v
/-- All but the map's block is as it was. -/
structure Turn (B : Nat) (W W' : World) : Prop where
  g : W.grownBy W' (some B)
theorem Turn.refl (B : Nat) (W : World) : Turn B W W := ⟨⟨rfl, rfl, rfl, Nat.le_refl _, fun _ _ _ => rfl⟩⟩
theorem Turn.trans {B : Nat} {W W' W'' : World} (h : Turn B W W') (h2 : Turn B W' W'') : Turn B W W'' :=
  ⟨⟨h2.g.os.trans h.g.os, h2.g.tape.trans h.g.tape, h2.g.output.trans h.g.output, Nat.le_trans h.g.size h2.g.size, fun k hk hne => (h2.g.block k (Nat.lt_of_lt_of_le hk h.g.size) hne).trans (h.g.block k hk hne)⟩⟩
theorem Turn.below {B lo : Nat} {W W' : World} (h : Turn B W W') (hB : lo ≤ B) (hlo : lo ≤ W.heap.size) : Below lo W W' :=
  ⟨h.g.os, h.g.tape, h.g.output, h.g.size, fun k hk => h.g.block k (by omega) (fun e => by injection e with e; omega)⟩
theorem Turn.of {B : Nat} {W W' : World} (h : Below W.heap.size W W') : Turn B W W' := ⟨grown_of_below h⟩
theorem Turn.cell {B : Nat} {W W' : World} (h : Turn B W W') {bb o : Nat} (hlt : bb < W.heap.size) (hne : bb ≠ B) : W'.cell? ⟨bb, o, none⟩ = W.cell? ⟨bb, o, none⟩ := by
  have := h.g.block bb hlt (fun e => hne (by injection e))
  simp [World.cell?, this]
theorem Turn.size {B : Nat} {W W' : World} (h : Turn B W W') : W.heap.size ≤ W'.heap.size := h.g.size
theorem Memo.late {t : ByteArray} {ps : List Atm} {B : Nat} {W W' : World} (h : Memo t ps B W) (hb : Below W.heap.size W W') : Memo t ps B W' := by
  obtain ⟨D, h1, h2⟩ := h.ex
  exact ⟨D, h1.kept (row := none) (grown_of_below hb) (by simp), h2⟩
theorem Memo.lt {t : ByteArray} {ps : List Atm} {B : Nat} {W : World} (h : Memo t ps B W) : B < W.heap.size := by
  obtain ⟨D, h1, h2⟩ := h.ex
  exact h1.lt
theorem memo_new (t : ByteArray) (ps : List Atm) (W : World) : Memo t ps W.heap.size (W.alloc (.map #[] 0)) := by
  refine ⟨.map [], ?_, fun i s _ _ h => by simp [Maps.has] at h⟩
  have h0 : ∀ n, cntTo (knownAt (.map [])) n = 0 := fun n => by
    induction n with
    | zero => rfl
    | succ n ih => unfold cntTo; rw [ih]; simp [knownAt, Maps.has]
  rw [h0]
  exact World.ownsMap_made _ _ _ _
/-- What is stored is so. -/
theorem memo_put {t : ByteArray} {ps : List Atm} {B i s : Nat} {W : World} {v : Int} {D : DataW Unit} (hi : i < 100) (hs : s < 10000) (hno : Maps.has D (askL (i : Int) (s : Int)) = false)
    (hD : ∀ i s : Nat, i < 100 → s < 10000 → Maps.has D (askL (i : Int) (s : Int)) = true → ∃ v : Int, D.atKey (askL (i : Int) (s : Int)) (.lit (.int .i64 0)) = .lit (.int .i64 v) ∧ Far t (ps.drop i) s v) (hM : IsMap D)
    (hf : Far t (ps.drop i) s v) (hown : W.ownsMap Try.prog 129 (plainElem Try.prog 3) B (cntTo (knownAt D) 1000000 + 1) (D.put (askL (i : Int) (s : Int)) (.lit (.int .i64 v)))) : Memo t ps B W := by
  have hk : WideAt.IsKeyLit (askL (i : Int) (s : Int)) := askLaw.key (ask_key (wf_nat (a := i) (by omega)) (wf_nat (a := s) (by omega)))
  refine ⟨D.put (askL (i : Int) (s : Int)) (.lit (.int .i64 v)), ?_, fun i' s' hi' hs' h => ?_⟩
  · have hj : i * 10000 + s < 1000000 := by omega
    have hd : (i * 10000 + s) / 10000 = i := by omega
    have hr : (i * 10000 + s) % 10000 = s := by omega
    have hc := cntTo_new (p := knownAt D) (q := knownAt (D.put (askL (i : Int) (s : Int)) (.lit (.int .i64 v)))) (j := i * 10000 + s) (by unfold knownAt; rw [hd, hr]; exact hno) (by unfold knownAt; rw [hd, hr]; exact has_put_same hM hk _) 1000000 (fun j hjl hne => by
      unfold knownAt
      exact has_put_other (ask_ne (by omega) (by omega) (by omega) (by omega) (by omega)) _)
    rw [hc, if_pos hj]
    exact hown
  · by_cases e : i' = i ∧ s' = s
    · obtain ⟨rfl, rfl⟩ := e
      exact ⟨v, atKey_put_same hM hk _ _, hf⟩
    · have hne := ask_ne (a := i') (b := s') (c := i) (d := s) (by omega) (by omega) (by omega) (by omega) e
      rw [has_put_other hne] at h
      rw [atKey_put_other hne]
      exact hD i' s' hi' hs' h
end Go.Proofs.Ytfeolbgenpknfaa
