/- What is proved here: what is stored in the map of what is known is so, whether the place was known or not.
   What is proved here: strings.IndexByte at a text; the world stays.
   What is proved here: whether a byte is there and an atom stands for it, as the program says it; nothing that was there turns.
   What is said here: what is asked of the program's furthest, and what stays in memory while it is asked. -/
import Derived.Test.YtfeolbgenpknfaaQVecDToMemoW
import Derived.Test.YtfeolbgenpknfaaProg
import Derived.WalkKit
import Derived.Lib.Bytealg
import Derived.Laws.Externs
import Derived.Test.YtfeolbgenpknfaaQMeanM
import Derived.Test.YtfeolbgenpknfaaQClassRightWToClassAlg
import Derived.Deep.QuietTactic
import Derived.BigQuiet
namespace Go.Proofs.Ytfeolbgenpknfaa
open Go.RowKit Go.Maps

theorem size_put_there {D : DataW Unit} {k : Lit} {d : DataW Unit} (h : Maps.has D k = true) : Maps.size (D.put k d) ≤ Maps.size D := by
  cases D with
  | map es =>
    show (DataW.insert (k, d) (es.filter fun p => !p.1.sameKey k)).length ≤ es.length
    rw [DataW.length_insert]
    have h2 : ∃ p ∈ es, p.1.sameKey k = true := by simpa [Maps.has] using h
    have h3 : (es.filter fun p => !p.1.sameKey k).length < es.length := by
      rw [List.length_filter_lt_length_iff_exists]
      obtain ⟨p, hp, hk⟩ := h2
      exact ⟨p, hp, by simp [hk]⟩
    omega
  | _ => simp [Maps.has] at h
theorem owns_tight {W : World} {b n m : Nat} {D : DataW Unit} (h : W.ownsMap Try.prog 129 (plainElem Try.prog 3) b n D) (hm : Maps.size D ≤ m) : W.ownsMap Try.prog 129 (plainElem Try.prog 3) b m D := by
  obtain ⟨es, clock, hb, F, hs, rfl⟩ := h
  exact ⟨es, clock, hb, F, by simpa [Maps.size, DataW.length_sorted] using hm, rfl⟩
/-- What is stored is so, known or not. -/
theorem memo_put_any {t : ByteArray} {ps : List Atm} {B i s : Nat} {W W' : World} {v : Int} {D : DataW Unit} (hi : i < 100) (hs : s < 10000)
    (hD : ∀ i s : Nat, i < 100 → s < 10000 → Maps.has D (askL (i : Int) (s : Int)) = true → ∃ v : Int, D.atKey (askL (i : Int) (s : Int)) (.lit (.int .i64 0)) = .lit (.int .i64 v) ∧ Far t (ps.drop i) s v) (ho : W.ownsMap Try.prog 129 (plainElem Try.prog 3) B (cntTo (knownAt D) 1000000) D)
    (hf : Far t (ps.drop i) s v) (hown : W'.ownsMap Try.prog 129 (plainElem Try.prog 3) B (cntTo (knownAt D) 1000000 + 1) (D.put (askL (i : Int) (s : Int)) (.lit (.int .i64 v)))) : Memo t ps B W' := by
  cases hno : Maps.has D (askL (i : Int) (s : Int)) with
  | false => exact memo_put hi hs hno hD ho.isMap hf hown
  | true =>
    have hk : WideAt.IsKeyLit (askL (i : Int) (s : Int)) := askLaw.key (ask_key (wf_nat (a := i) (by omega)) (wf_nat (a := s) (by omega)))
    have hM := ho.isMap
    have hkn : ∀ j, j < 1000000 → knownAt (D.put (askL (i : Int) (s : Int)) (.lit (.int .i64 v))) j = knownAt D j := fun j hj => by
      unfold knownAt
      by_cases e : j / 10000 = i ∧ j % 10000 = s
      · obtain ⟨e1, e2⟩ := e
        rw [e1, e2, has_put_same hM hk, hno]
      · exact has_put_other (ask_ne (by omega) (by omega) (by omega) (by omega) e) _
    have hcnt : ∀ n, n ≤ 1000000 → cntTo (knownAt (D.put (askL (i : Int) (s : Int)) (.lit (.int .i64 v)))) n = cntTo (knownAt D) n := fun n hn => by
      induction n with
      | zero => rfl
      | succ n ih => unfold cntTo; rw [ih (by omega), hkn n (by omega)]
    refine ⟨D.put (askL (i : Int) (s : Int)) (.lit (.int .i64 v)), ?_, fun i' s' hi' hs' h => ?_⟩
    · rw [hcnt 1000000 (Nat.le_refl _)]
      exact owns_tight hown (Nat.le_trans (size_put_there hno) ho.size_le)
    · by_cases e : i' = i ∧ s' = s
      · obtain ⟨rfl, rfl⟩ := e
        exact ⟨v, atKey_put_same hM hk _ _, hf⟩
      · have hne := ask_ne (a := i') (b := s') (c := i) (d := s) (by omega) (by omega) (by omega) (by omega) e
        rw [has_put_other hne] at h
        rw [atKey_put_other hne]
        exact hD i' s' hi' hs' h
theorem Memo.grown {t : ByteArray} {ps : List Atm} {B : Nat} {W W' : World} (h : Memo t ps B W) (hg : W.grownBy W' none) : Memo t ps B W' := by
  obtain ⟨D, h1, h2⟩ := h.ex
  exact ⟨D, h1.kept (row := none) hg (by simp), h2⟩
theorem Memo.cnt (D : DataW Unit) : cntTo (knownAt D) 1000000 < maxLen := Nat.lt_of_le_of_lt (cntTo_le _ _) (by unfold maxLen; omega)
theorem ARow.turn {W W' : World} {B n : Nat} {sa : Option Addr} {f : Nat → Atm} (h : ARow W B sa n f) (ht : Turn B W W') (hB : B < W.heap.size) : ARow W' B sa n f := h.kept (ht.below (Nat.le_refl _) (Nat.le_of_lt hB))
end Go.Proofs.Ytfeolbgenpknfaa
namespace Go.Proofs.Ytfeolbgenpknfaa
open Go.RowKit

set_option maxHeartbeats 1000000 in
set_option maxRecDepth 100000 in
theorem indexLite_any (s : ByteArray) (c : Int) (w : World) :
    Calls Try.prog 135 #[.string s, .int .u8 c] w fun e w' => e = .returned (.int .i64 (Lib.indexByte s.data.toList c.toNat.toUInt8)) ∧ w' = w := by
  go_enter Try.func135, Try.ntmps135
  go_wp2
  rw [run_callFunc_extern Try.func140 (by kernel_rfl) (by kernel_rfl) (by kernel_rfl) (e := Extern.BytealgIndexByte.indexByte) (by kernel_rfl), Lib.run_indexByteString]
  simp only [Result.andThen]
  rw [Oper.upon_value]
  go_wp2
  go_ret
  exact ⟨rfl, rfl⟩
theorem indexByte_any (s : ByteArray) (c : Int) (w : World) :
    Calls Try.prog 132 #[.string s, .int .u8 c] w fun e w' => e = .returned (.int .i64 (Lib.indexByte s.data.toList c.toNat.toUInt8)) ∧ w' = w := by
  go_enter Try.func132, Try.ntmps132
  go_wp2_with (go_at_call 135; refine (indexLite_any _ _ _).mono ?_; rintro e w' ⟨rfl, rfl⟩)
  go_ret
  exact ⟨rfl, rfl⟩
theorem indexByte_neg {l : List UInt8} {c : UInt8} (h : c ∉ l) : Lib.indexByte l c = -1 := by
  induction l with
  | nil => rfl
  | cons a l ih =>
    have h1 : ¬ (a == c) = true := fun e => h (by rw [beq_iff_eq] at e; simp [e])
    have h2 := ih (fun hm => h (List.mem_cons_of_mem _ hm))
    unfold Lib.indexByte
    rw [if_neg h1, h2]
    rfl
theorem indexByte_pos {l : List UInt8} {c : UInt8} (h : c ∈ l) : 0 ≤ Lib.indexByte l c := by
  induction l with
  | nil => simp at h
  | cons a l ih =>
    unfold Lib.indexByte
    by_cases h1 : (a == c) = true
    · rw [if_pos h1]; exact Int.le_refl _
    · rw [if_neg h1]
      have h2 : c ∈ l := by
        rcases List.mem_cons.1 h with e | e
        · exact absurd (by rw [e]; simp) h1
        · exact e
      have h3 := ih h2
      rw [if_neg (by simp; omega)]
      omega
end Go.Proofs.Ytfeolbgenpknfaa
namespace Go.Proofs.Ytfeolbgenpknfaa
open Go.RowKit

theorem idx_has (c : ByteArray) (b : UInt8) : decide (0 ≤ Lib.indexByte c.data.toList b) = hasByte c b.toNat := by
  by_cases h : b ∈ c.data.toList
  · rw [decide_eq_true (indexByte_pos h)]
    unfold hasByte
    symm
    rw [List.any_eq_true]
    exact ⟨b, h, by simp⟩
  · rw [indexByte_neg h]
    have : hasByte c b.toNat = false := by
      unfold hasByte
      rw [List.any_eq_false]
      intro x hx hxb
      rw [beq_iff_eq] at hxb
      have : x = b := UInt8.toNat_inj.1 hxb
      subst this
      exact h hx
    rw [this]
    rfl
theorem idx_nat (b : UInt8) : ((b.toNat : Nat) : Int).toNat.toUInt8 = b := by
  rw [Int.toNat_natCast]
  simp
set_option maxRecDepth 100000 in
set_option maxHeartbeats 2000000 in
theorem takes_any (sa : Option Addr) (n cap : Nat) (t : ByteArray) (mb : Option Nat) (c : ByteArray) (l m : Int) (s : Nat) (w : World) (hs0 : s ≤ 8000) :
    Calls Try.prog 126 #[.agg #[.slice sa n cap, .string t, .map mb], .agg #[.string c, .int .i64 l, .int .i64 m], .int .i64 (s : Int)] w fun e w' => e = .returned (.bool (takesB t c s)) ∧ Below w.heap.size w w' := by
  have BX : Hid (Below w.heap.size w ((w.alloc (.cells #[.slice sa n cap, .string t, .map mb] 73)).alloc (.cells #[.string c, .int .i64 l, .int .i64 m] 89))) := ((Below.refl _ _).alloc (Nat.le_refl _) _).alloc (by simp) _
  by_cases hs : s < t.size
  · have hd : decide ((s : Int) < (t.size : Int)) = true := by simp; omega
    have hi : (s : Int) < (t.size : Int) := by omega
    have hi0 : (0 : Int) ≤ (s : Int) := by omega
    have HT : Hid (takesB t c s = decide (0 ≤ Lib.indexByte c.data.toList t[s])) := by
      show takesB t c s = decide (0 ≤ Lib.indexByte c.data.toList t[s])
      rw [idx_has]
      unfold takesB
      rw [dif_pos hs]
    have HI : Hid (∀ W, Calls Try.prog 132 #[.string c, .int .u8 ((t[s].toNat : Nat) : Int)] W fun e w' => e = .returned (.int .i64 (Lib.indexByte c.data.toList t[s])) ∧ w' = W) := fun W => by
      have := indexByte_any c ((t[s].toNat : Nat) : Int) W
      rw [idx_nat] at this
      exact this
    generalize Lib.indexByte c.data.toList t[s] = r at HT HI
    go_enter Try.func126, Try.ntmps126
    go_wp2_with fail
    go_quiet (first | (go_at_call 132; exact Calls.quiet_of_same (HI.out _)))
    go_wp2
    go_ret
    exact ⟨by rw [HT.out]; rfl, below_drewC _ BX.out⟩
  · have hd : decide ((s : Int) < (t.size : Int)) = false := by simp; omega
    have hi : ¬ (s : Int) < (t.size : Int) := by omega
    have HT : Hid (takesB t c s = false) := by
      show takesB t c s = false
      unfold takesB
      rw [dif_neg hs]
    go_enter Try.func126, Try.ntmps126
    go_wp2_with fail
    go_quiet (fail)
    go_wp2
    go_ret
    exact ⟨by rw [HT.out]; rfl, below_drewC _ BX.out⟩
end Go.Proofs.Ytfeolbgenpknfaa
namespace Go.Proofs.Ytfeolbgenpknfaa
open Go.RowKit

/-- From that place on, with that atom and all behind it, the program says how far one gets. -/
def FurC (sa : Option Addr) (n cap : Nat) (t : ByteArray) (g : Nat → Atm) (B i s : Nat) : Prop :=
  ∀ W : World, Memo t (atomsL g n) B W → ARow W B sa n g → Calls Try.prog 95 #[.agg #[.slice sa n cap, .string t, .map (some B)], .agg #[.int .i64 (i : Int), .int .i64 (s : Int)]] W fun e w' => ∃ v : Int, e = .returned (.int .i64 v) ∧ Far t ((atomsL g n).drop i) s v ∧ Memo t (atomsL g n) B w' ∧ Turn B W w'
/-- A meaning, a question and an atom lie in boxes. -/
structure Three (W : World) (p q r : Nat) (sa : Option Addr) (n cap : Nat) (t : ByteArray) (B i s : Nat) (a : Atm) : Prop where
  m0 : W.cell? ⟨p, 0, none⟩ = some (.slice sa n cap)
  m1 : W.cell? ⟨p, 1, none⟩ = some (.string t)
  m2 : W.cell? ⟨p, 2, none⟩ = some (.map (some B))
  q0 : W.cell? ⟨q, 0, none⟩ = some (.int .i64 (i : Int))
  q1 : W.cell? ⟨q, 1, none⟩ = some (.int .i64 (s : Int))
  a0 : W.cell? ⟨r, 0, none⟩ = some (.string a.c)
  a1 : W.cell? ⟨r, 1, none⟩ = some (.int .i64 a.l)
  a2 : W.cell? ⟨r, 2, none⟩ = some (.int .i64 a.m)
  lp : p < W.heap.size
  lq : q < W.heap.size
  lr : r < W.heap.size
  np : p ≠ B
  nq : q ≠ B
  nr : r ≠ B
theorem Three.turn {W W' : World} {p q r : Nat} {sa : Option Addr} {n cap : Nat} {t : ByteArray} {B i s : Nat} {a : Atm} (h : Three W p q r sa n cap t B i s a) (ht : Turn B W W') : Three W' p q r sa n cap t B i s a :=
  ⟨by rw [ht.cell h.lp h.np]; exact h.m0, by rw [ht.cell h.lp h.np]; exact h.m1, by rw [ht.cell h.lp h.np]; exact h.m2, by rw [ht.cell h.lq h.nq]; exact h.q0, by rw [ht.cell h.lq h.nq]; exact h.q1, by rw [ht.cell h.lr h.nr]; exact h.a0, by rw [ht.cell h.lr h.nr]; exact h.a1, by rw [ht.cell h.lr h.nr]; exact h.a2, Nat.lt_of_lt_of_le h.lp ht.size, Nat.lt_of_lt_of_le h.lq ht.size, Nat.lt_of_lt_of_le h.lr ht.size, h.np, h.nq, h.nr⟩
/-- A meaning and a question lie in boxes. -/
structure Two (W : World) (p q : Nat) (sa : Option Addr) (n cap : Nat) (t : ByteArray) (B i s : Nat) : Prop where
  m0 : W.cell? ⟨p, 0, none⟩ = some (.slice sa n cap)
  m1 : W.cell? ⟨p, 1, none⟩ = some (.string t)
  m2 : W.cell? ⟨p, 2, none⟩ = some (.map (some B))
  q0 : W.cell? ⟨q, 0, none⟩ = some (.int .i64 (i : Int))
  q1 : W.cell? ⟨q, 1, none⟩ = some (.int .i64 (s : Int))
  lp : p < W.heap.size
  lq : q < W.heap.size
  np : p ≠ B
  nq : q ≠ B
theorem Two.turn {W W' : World} {p q : Nat} {sa : Option Addr} {n cap : Nat} {t : ByteArray} {B i s : Nat} (h : Two W p q sa n cap t B i s) (ht : Turn B W W') : Two W' p q sa n cap t B i s :=
  ⟨by rw [ht.cell h.lp h.np]; exact h.m0, by rw [ht.cell h.lp h.np]; exact h.m1, by rw [ht.cell h.lp h.np]; exact h.m2, by rw [ht.cell h.lq h.nq]; exact h.q0, by rw [ht.cell h.lq h.nq]; exact h.q1, Nat.lt_of_lt_of_le h.lp ht.size, Nat.lt_of_lt_of_le h.lq ht.size, h.np, h.nq⟩
theorem two_new (W : World) (sa : Option Addr) (n cap : Nat) (t : ByteArray) (B i s : Nat) (hB : B < W.heap.size) (tm tq : TypeId) : Two ((W.alloc (.cells #[.slice sa n cap, .string t, .map (some B)] tm)).alloc (.cells #[.int .i64 (i : Int), .int .i64 (s : Int)] tq)) W.heap.size (W.heap.size + 1) sa n cap t B i s := by
  refine ⟨?_, ?_, ?_, ?_, ?_, ?_, ?_, ?_, ?_⟩ <;> first | omega | (simp; done) | (simp; omega)
theorem below_two (W : World) (o1 o2 : Obj) : Below W.heap.size W ((W.alloc o1).alloc o2) := ((Below.refl _ _).alloc (Nat.le_refl _) _).alloc (by simp) _
theorem Two.three {W : World} {p q : Nat} {sa : Option Addr} {n cap : Nat} {t : ByteArray} {B i s : Nat} (h : Two W p q sa n cap t B i s) (hB : B < W.heap.size) (a : Atm) (ty : TypeId) : Three (W.alloc (.cells #[.string a.c, .int .i64 a.l, .int .i64 a.m] ty)) p q W.heap.size sa n cap t B i s a := by
  have h2 := h.turn (Turn.of (B := B) ((Below.refl W.heap.size W).alloc (Nat.le_refl _) (.cells #[.string a.c, .int .i64 a.l, .int .i64 a.m] ty)))
  exact ⟨h2.m0, h2.m1, h2.m2, h2.q0, h2.q1, by simp, by simp, by simp, h2.lp, h2.lq, by simp, h2.np, h2.nq, by omega⟩
theorem far_cast {t : ByteArray} {g : Nat → Atm} {n i s : Nat} {v : Int} (hi : i < n) (h : Far t (g i :: (atomsL g n).drop (i + 1)) s v) : Far t ((atomsL g n).drop i) s v := by
  rw [atomsL_drop hi]
  exact h
end Go.Proofs.Ytfeolbgenpknfaa
