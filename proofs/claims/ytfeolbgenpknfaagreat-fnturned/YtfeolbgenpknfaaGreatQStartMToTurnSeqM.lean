/- What is said here: where one stands ahead of a text: plain mathematics.
   What is said here: where a walk along a row stands behind each byte, and at which ends it hits, as plain mathematics.
   What is said here: plain cells that are gone along by turned bits, as plain mathematics: the bits behind each byte, the ends, and that none is left behind a byte that leaves nothing passed, when less is left than there are cells.
   What is proved here: a range over a function that turns blocks of its own while it goes on: what its contract says, and how a loop over it is walked; a scope that no jump enters. -/
import Derived.Test.YtfeolbgenpknfaaGreatQSpecMaskLW
import Derived.Test.YtfeolbgenpknfaaGreatQSpecStepW
import Derived.Test.YtfeolbgenpknfaaGreatQCellMToWordM
import Derived.RangeFuncNested
import Derived.RangeFuncBound
import Derived.RangeFuncCalls
import Derived.RangeFuncLeaves
import Derived.Scope
import Derived.WalkKit
import Derived.Test.YtfeolbgenpknfaaGreatProg
namespace Go.Proofs.YtfeolbgenpknfaaGreat

/-- Where each begins. -/
def startB (f : Nat → Cel) (n : Nat) : Nat → Bool := cloB (skipB f n) (fun j => decide (0 = j))
theorem start_le (f : Nat → Cel) (n : Nat) : ∀ j, n < j → startB f n j = false := fun j hj => clo_le (skip_le f n) (fun j hj => decide_eq_false (by omega)) j hj
end Go.Proofs.YtfeolbgenpknfaaGreat
namespace Go.Proofs.YtfeolbgenpknfaaGreat
open Go.RowKit

/-- A text's byte. -/
def byteN (t : ByteArray) (k : Nat) : Nat := if h : k < t.size then t[k].toNat else 0
theorem byteN_lt (t : ByteArray) (k : Nat) : byteN t k < 256 := by
  unfold byteN
  split
  · exact UInt8.toNat_lt _
  · omega
/-- Where one stands behind so many bytes. -/
def walkS (f : Nat → Cel) (n : Nat) (t : ByteArray) : Nat → Nat → Bool
  | 0 => startB f n
  | k + 1 => fun j => stepB f n (walkS f n t k) (byteN t k) j || startB f n j
theorem walkS_le (f : Nat → Cel) (n : Nat) (t : ByteArray) : ∀ k j, n < j → walkS f n t k j = false
  | 0, j, h => start_le f n j h
  | k + 1, j, h => by
    show (stepB f n (walkS f n t k) (byteN t k) j || startB f n j) = false
    rw [step_le f n _ _ j h, start_le f n j h]
    rfl
/-- Does the walk hit at an end? -/
def hitP (f : Nat → Cel) (n : Nat) (t : ByteArray) : Nat → Bool
  | 0 => false
  | k + 1 => stepB f n (walkS f n t k) (byteN t k) n
/-- The ends at which it hits. -/
def runL (f : Nat → Cel) (n : Nat) (t : ByteArray) : List Int := classL (hitP f n t) (t.size + 1)
end Go.Proofs.YtfeolbgenpknfaaGreat
namespace Go.Proofs.YtfeolbgenpknfaaGreat

/-- All bits of a row. -/
def allB (n : Nat) : Nat → Bool := fun j => decide (j < n)
/-- The bits of the cells that lack a byte. -/
def lackB (f : Nat → Cel) (n c : Nat) : Nat → Bool := fun j => decide (j < n) && !hasByte (f j).c c
/-- The turned bits behind a byte. -/
def turnB (f : Nat → Cel) (n : Nat) (T : Nat → Bool) (c : Nat) : Nat → Bool := fun j => (decide (1 ≤ j ∧ j < n) && T (j - 1)) || lackB f n c j
theorem turn_le (f : Nat → Cel) (n : Nat) (T : Nat → Bool) (c : Nat) : ∀ j, n ≤ j → turnB f n T c j = false := fun j h => by
  unfold turnB lackB
  rw [decide_eq_false (by omega), decide_eq_false (by omega)]
  rfl
/-- A text's byte. -/
def byteT (t : ByteArray) (k : Nat) : Nat := if h : k < t.size then t[k].toNat else 0
theorem byteT_at {t : ByteArray} {k : Nat} (h : k < t.size) : byteT t k = t[k].toNat := by unfold byteT; rw [dif_pos h]
/-- The turned bits behind so many bytes. -/
def turnS (f : Nat → Cel) (n : Nat) (t : ByteArray) : Nat → Nat → Bool
  | 0 => allB n
  | k + 1 => turnB f n (turnS f n t k) (byteT t k)
theorem turnS_le (f : Nat → Cel) (n : Nat) (t : ByteArray) : ∀ k j, n ≤ j → turnS f n t k j = false
  | 0, j, h => decide_eq_false (by omega)
  | k + 1, j, h => turn_le f n _ _ j h
/-- Is there a hit behind so many bytes? -/
def hitT (f : Nat → Cel) (n : Nat) (t : ByteArray) : Nat → Bool
  | 0 => false
  | k + 1 => !turnS f n t (k + 1) (n - 1)
/-- The ends. -/
def turnL (f : Nat → Cel) (n : Nat) (t : ByteArray) : List Int := classL (hitT f n t) (t.size + 1)
theorem turn_stays {f : Nat → Cel} {n : Nat} {t : ByteArray} {k : Nat} (h : ∀ j, turnS f n t k j = allB n j) : ∀ d j, d ≤ j → j < n → turnS f n t (k + d) j = true
  | 0, j, _, hj => by rw [Nat.add_zero, h]; exact decide_eq_true hj
  | d + 1, j, hd, hj => by
    show turnB f n (turnS f n t (k + d)) (byteT t (k + d)) j = true
    unfold turnB
    rw [decide_eq_true (show 1 ≤ j ∧ j < n by omega), turn_stays h d (j - 1) (by omega) (by omega)]
    rfl
/-- Behind a byte that leaves nothing passed there is no end, when less is left than there are cells. -/
theorem turn_early {f : Nat → Cel} {n : Nat} {t : ByteArray} {k : Nat} (h : ∀ j, turnS f n t k j = allB n j) (hk : k ≤ t.size) (hl : t.size - k < n) : classL (hitT f n t) (k + 1) = turnL f n t := by
  have e : ∀ d, d ≤ t.size - k → classL (hitT f n t) (k + d + 1) = classL (hitT f n t) (k + 1) := fun d => by
    induction d with
    | zero => intro _; rfl
    | succ d ih =>
      intro hd
      rw [show k + (d + 1) + 1 = (k + d + 1) + 1 by omega, classL_no, ih (by omega)]
      show (!turnS f n t (k + (d + 1)) (n - 1)) = false
      rw [turn_stays h (d + 1) (n - 1) (by omega) (by omega)]
      rfl
  have := e (t.size - k) (Nat.le_refl _)
  rw [show k + (t.size - k) + 1 = t.size + 1 by omega] at this
  exact this.symm
theorem bits_all {n : Nat} (h : n ≤ 63) : IsBits (2 ^ n - 1) (allB n) := ⟨by have := pow_lt64 (k := n) (by omega); omega, fun j => by rw [Nat.testBit_two_pow_sub_one]; rfl⟩
theorem all_le (n : Nat) : ∀ j, n ≤ j → allB n j = false := fun j h => decide_eq_false (by omega)
/-- A step by numbers. -/
theorem bits_turn {f : Nat → Cel} {n x y : Nat} {T : Nat → Bool} {c : Nat} (hn : n ≤ 62) (hx : IsBits x T) (hT : ∀ j, n ≤ j → T j = false) (hy : IsBits y (lackB f n c)) : IsBits ((x * 2 ||| y) &&& (2 ^ n - 1)) (turnB f n T c) :=
  (((bits_shl hx (fun j hj => hT j (by omega))).or hy).and (bits_all (by omega))).congr (fun j => by
    unfold turnB lackB allB
    by_cases h1 : 1 ≤ j <;> by_cases h2 : j < n <;> simp [h1, h2])
theorem hit_turn {n x : Nat} {T : Nat → Bool} (hn : 1 ≤ n) (hx : IsBits x T) (hT : ∀ j, n ≤ j → T j = false) : x / 2 ^ (n - 1) = if T (n - 1) = true then 1 else 0 := by
  apply Nat.eq_of_testBit_eq
  intro j
  rw [Nat.testBit_div_two_pow, hx.bit]
  cases j with
  | zero =>
    rw [Nat.zero_add]
    cases T (n - 1) <;> rfl
  | succ j =>
    rw [hT _ (by omega)]
    cases T (n - 1) <;> simp [Nat.testBit_succ]
theorem all_turn {n x : Nat} {T : Nat → Bool} (hn : n ≤ 62) (hx : IsBits x T) : x = 2 ^ n - 1 ↔ ∀ j, T j = allB n j := by
  constructor
  · rintro rfl j
    rw [← hx.bit, ← (bits_all (show n ≤ 63 by omega)).bit]
  · intro h
    exact hx.uniq ((bits_all (by omega)).congr (fun j => (h j).symm))
end Go.Proofs.YtfeolbgenpknfaaGreat
namespace Go.Proofs.YtfeolbgenpknfaaGreat
open Go.RowKit

theorem scope_wide {n : Nat} {P : Program} {c : Code} {Q : Exit → Act → World → Prop} {a : Act} {w : World} (h : c.wpIn Fence.wide n P (Exit.noGoto Q) a w) : (Code.scope c).wpIn Fence.wide n P Q a w :=
  wpIn_wide.2 (wp_scope_straight (wpIn_wide.1 h))
/-- What an iterator's own blocks' turning does not touch. -/
def Lets {α : Type} (own : Nat → Prop) (Inv : World → Prop) (J : List α → World → Prop) : Prop := ∀ s A B row, J s A → A.grownBy B row → (∀ r, row = some r → own r) → Inv B → J s B
/-- The contract of an iterator that turns blocks of its own: whatever is said that its own blocks' turning does not touch. -/
def SeqTurns {α : Type} (F : Fence) (n : Nat) (P : Program) (g : Nat) (lb : Array Value) (encs : α → Array Value) (Kp : World → World → Prop) (own : Nat → Prop) (Inv : World → Prop) (S Sp : List α → Prop) (N : Nat) (w : World) : Prop :=
  ∀ (l : Nat) (J Jx : List α → World → Prop) (W : World), Below w.heap.size w W → Lets own Inv J → Lets own Inv Jx →
    (∀ pre x V, J pre V → pre.length < N → YieldAt F (n - 1) P l (encs x) V fun e V' => (e = .returned (.bool true) ∧ J (pre ++ [x]) V' ∧ Kp V V') ∨ (e = .returned (.bool false) ∧ Jx (pre ++ [x]) V')) →
    J [] W → CallsIn F n P g (#[.func (.yield l) #[] #[]] ++ lb) W fun e V' => (∃ v, e = .returned v) ∧ ((∃ xs, S xs ∧ J xs V') ∨ (∃ pre, Sp pre ∧ Jx pre V'))
/-- What a loop holds stays, though the iterator's own blocks turn, and what is no cells from B on. -/
structure Stays {α : Type} (own : Nat → Prop) (Inv : World → Prop) (B : Nat) (I : List α → World → Prop) : Prop where
  own : Lets own Inv I
  rest : ∀ s A C row, I s A → A.grownBy C row → (∀ r, row = some r → B ≤ r ∧ ∃ o : Obj, A.heap[r]? = some o ∧ o.isCells = false) → I s C
theorem Stays.put {α : Type} {own : Nat → Prop} {Inv : World → Prop} {B : Nat} {I : List α → World → Prop} (h : Stays own Inv B I) {s : List α} {W : World} {l : Nat} {o : Obj} (o' : Obj) (hs : I s W) (hB : B ≤ l) (hl : W.heap[l]? = some o) (ho : o.isCells = false) : I s (W.putObj l o') :=
  h.rest s W _ (some l) hs (grownBy_putObj' W l o') (fun r e => by cases e; exact ⟨hB, o, hl, ho⟩)
theorem Stays.new {α : Type} {own : Nat → Prop} {Inv : World → Prop} {B : Nat} {I : List α → World → Prop} (h : Stays own Inv B I) {s : List α} {W : World} (o : Obj) (hs : I s W) : I s (W.alloc o) :=
  h.rest s W _ none hs (World.grownBy_alloc W o none) (fun r e => by cases e)
section
variable {F : Fence} {n : Nat} {P : Program}
theorem range_turnsA {α : Type} {g : Operand} {ps : Array Tmp} {assign body : Code} {Q : Exit → Act → World → Prop} {a : Act} {w : World}
    (hro : F.round = none) (h1 : 1 ≤ n) {gf : Nat} {lb : Array Value} (hg : a.eval g = .func (.func gf) #[] lb) (hFg : F.fn gf) (eg : ∀ args w, (callFunc gf args).run P w = .ok (.enter gf args) w)
    {encs : α → Array Value} {Kp : World → World → Prop} {own : Nat → Prop} {Inv : World → Prop} {S Sp : List α → Prop} {N : Nat} {w0 : World} (hseq : SeqTurns F (n - 1) P gf lb encs Kp own Inv S Sp N w0) (hown : ∀ r, own r → r < w.heap.size)
    (hKt : ∀ {A B C : World}, Kp A B → Kp B C → Kp A C) (hKb : ∀ (W : World) (l : Nat) (o o' : Obj), w.heap.size ≤ l → W.heap[l]? = some o → o.isCells = false → o.isWalk = false → Kp W (W.putObj l o')) (hb0 : Below w0.heap.size w0 w) (hps : ∀ x, (encs x).size = ps.size)
    (I : List α → World → Prop) (Ix : Code → List α → World → Prop) (hI : Stays own Inv w.heap.size I) (hIx : ∀ c, Stays own Inv w.heap.size (Ix c)) (h0 : I [] w) (Ax : α → Act → World → Prop) (hAx : ∀ x a' W l o o', Ax x a' W → w.heap.size ≤ l → W.heap[l]? = some o → o.isCells = false → Ax x a' (W.putObj l o'))
    (hassign : ∀ (l : Nat) (pre : List α) (x : α) (W : World) (K : Act → World → Prop), I pre W → (∀ a' W', KeepsFrom w.heap.size W W' → Kp W W' → I pre W' → Ax x a' W' → K a' W') → assign.wpIn (F.inRound l) (n - 1 - 1) P (Exit.then K (fun _ _ _ => False)) { tmps := (ps.zip (encs x)).foldl (fun t (p, v) => t.setIfInBounds p v) a.tmps, defers := [] } W)
    (hbody : ∀ (l : Nat) (pre : List α) (x : α) (a' : Act) (W : World), I pre W → Ax x a' W → pre.length < N → body.wpIn (F.inRound l) (n - 1 - 1) P (ownPostG w.heap.size Kp I Ix (pre ++ [x]) W) a' W)
    (hdone : ∀ (D : Nat) (xs : List α) (W : World), w.heap.size ≤ D → S xs → I xs W → W.heap[D]? = some (.deferred (some [])) → Q .normal { a with defers := { target := .collected D, args := #[] } :: a.defers } W)
    (hstop : ∀ (D : Nat) (c : Code) (pre : List α) (W : World), w.heap.size ≤ D → Sp pre → Ix c pre W → W.heap[D]? = some (.deferred (some [])) → c.wpIn F n P Q { a with defers := { target := .collected D, args := #[] } :: a.defers } W) :
    (Code.rangeFunc g ps assign body).wpIn F n P Q a w := by
  refine wpIn_rangeFunc fun fn hfn => ?_
  rw [hro]
  generalize hD : w.heap.size = D at *
  -- the loop's record, and the two blocks of the loop
  obtain ⟨R, hR⟩ : ∃ R : LoopState → Option Code → Loop, R = fun st pe => { state := st, pending := pe, fn, tmps := a.tmps, params := ps, assign, body, defers := D } := ⟨_, rfl⟩
  have book : ∀ {st pe}, (R st pe).params = ps ∧ (R st pe).state = st ∧ (R st pe).pending = pe ∧ (R st pe).fn = fn ∧ (R st pe).tmps = a.tmps ∧ (R st pe).assign = assign ∧ (R st pe).body = body := fun {st pe} => by rw [hR]; exact ⟨rfl, rfl, rfl, rfl, rfl, rfl, rfl⟩
  let Two : LoopState → Option Code → World → Prop := fun st pe W => W.heap[D + 1]? = some (.loop (R st pe)) ∧ W.heap[D]? = some (.deferred (some []))
  have two_kept : ∀ {st pe A C row}, Two st pe A → A.grownBy C row → (∀ r, row = some r → own r) → Two st pe C := fun h hg hr =>
    ⟨(hg.block _ (Array.getElem?_eq_some_iff.1 h.1).1 (fun e => by have := hown _ (hr _ e.symm); omega)).trans h.1, (hg.block _ (Array.getElem?_eq_some_iff.1 h.2).1 (fun e => by have := hown _ (hr _ e.symm); omega)).trans h.2⟩
  have two_put : ∀ {st pe st' pe' W}, Two st pe W → Two st' pe' (W.putObj (D + 1) (.loop (R st' pe'))) := fun h =>
    ⟨World.putObj_heap_same (Array.getElem?_eq_some_iff.1 h.1).1, (World.putObj_heap_other (by omega)).trans h.2⟩
  obtain ⟨V, hV⟩ : ∃ V, (w.alloc (.deferred (some []))).alloc (.loop (R .ready none)) = V := ⟨_, rfl⟩
  have v2 : Two .ready none V := by
    rw [← hV]
    refine ⟨?_, ?_⟩
    · have := World.alloc_heap_new (w.alloc (.deferred (some []))) (.loop (R .ready none))
      rwa [World.size_alloc, hD] at this
    · have h9 := World.alloc_heap_new w (.deferred (some []))
      rw [hD] at h9
      exact (Below.heap_alloc _ _ _ (by simp; omega)).trans h9
  have vI : I [] V := by rw [← hV]; exact hI.new _ (hI.new _ h0)
  have vb : Below w0.heap.size w0 V := by rw [← hV]; exact hb0.trans ((((Below.refl _ w).alloc (Nat.le_refl _) _).alloc (by simp) _).mono hb0.size)
  refine ⟨D + 1, [{ target := .collected D, args := #[] }], V, { target := .fn (.func gf) lb, args := #[.func (.yield (D + 1)) #[] #[]] }, V, gf, #[.func (.yield (D + 1)) #[] #[]] ++ lb, V, ?_, ?_, ?_, ?_, fun _ => h1, ?_⟩
  · rw [← hV, hR, ← hD]; exact run_enterLoop_outer _ _ _ _ _
  · simp only [resolve, hg]
    simp [go_sem]
  · intro f' hf'; simp [Target.leads] at hf'; subst hf'; exact hFg
  · simp [invoke, go_sem, eg]
  refine (hseq (D + 1) (fun pre W => I pre W ∧ Two .ready none W) (fun pre W => ∃ c, Ix c pre W ∧ Two .done (some c) W) V vb
    (fun s A C row h hg hr hv => ⟨hI.own s A C row h.1 hg hr hv, two_kept h.2 hg hr⟩)
    (fun s A C row h hg hr hv => h.elim fun c hc => ⟨c, (hIx c).own s A C row hc.1 hg hr hv, two_kept hc.2 hg hr⟩) ?_ ⟨vI, v2⟩).mono ?_
  · rintro pre x W ⟨hi, ht⟩ hlen
    have hy := run_yield (P := P) (args := encs x) ht.1 (by rw [book.1]; exact hps x)
    rw [book.1, book.2.2.2.1, book.2.2.2.2.1, book.2.2.2.2.2.1, book.2.2.2.2.2.2] at hy
    refine ⟨fn, _, assign, body, hy, roundIn_of_wpIn hfn (hassign _ pre x W _ hi ?_)⟩
    intro a' W9 hkf9 hkp9 hi9 hax9
    have ht9 : Two .ready none W9 := ⟨hkf9.same _ _ (by omega) ht.1 rfl, hkf9.same _ _ (Nat.le_refl _) ht.2 rfl⟩
    refine ⟨_, run_beginRound ht9.1 book.2.1, ?_⟩
    clear hi ht hy hkf9
    obtain ⟨W0, rfl⟩ : ∃ W0, W0 = W := ⟨_, rfl⟩
    obtain ⟨W, rfl⟩ : ∃ W, W = W9 := ⟨_, rfl⟩
    have ht := ht9
    have hi := hi9
    clear ht9 hi9
    have hbz : ({ R .ready none with state := .busy } : Loop) = R .busy none := by rw [hR]
    rw [hbz]
    have t2 : Two .busy none (W.putObj (D + 1) (.loop (R .busy none))) := two_put ht
    have k2 : Kp W (W.putObj (D + 1) (.loop (R .busy none))) := hKb _ _ _ _ (by omega) ht.1 rfl rfl
    have i2 : I pre (W.putObj (D + 1) (.loop (R .busy none))) := hI.put _ hi (by omega) ht.1 rfl
    have last : ∀ (jump : Option Code) (C : World), KeepsFrom D (W.putObj (D + 1) (.loop (R .busy none))) C → Two .busy none C ∧ (Instr.endRound (D + 1) jump).run P C = .ok (.bool jump.isNone) (C.putObj (D + 1) (.loop (R (if jump.isNone then .ready else .done) jump))) := fun jump C hk => by
      have t3 : Two .busy none C := ⟨hk.same _ _ (by omega) t2.1 rfl, hk.same _ _ (Nat.le_refl _) t2.2 rfl⟩
      have he := run_endRound (P := P) jump t3.1
      have hz : ({ R .busy none with state := if jump.isNone then .ready else .done, pending := jump } : Loop) = R (if jump.isNone then .ready else .done) jump := by rw [hR]
      rw [hz] at he
      exact ⟨t3, he⟩
    refine wpIn_mono (hbody _ pre x a' _ i2 (hAx _ _ _ _ _ _ hax9 (by omega) ht.1 rfl) hlen) ?_
    rintro e a3 C hp
    cases e with
    | normal =>
      obtain ⟨t3, he⟩ := last none C hp.1
      exact ⟨_, _, he, .inl ⟨rfl, ⟨hI.put _ hp.2.2 (by omega) t3.1 rfl, two_put t3⟩, hKt hkp9 (hKt k2 (hKt hp.2.1 (hKb _ _ _ _ (by omega) t3.1 rfl rfl)))⟩⟩
    | ret =>
      obtain ⟨t3, he⟩ := last (some .ret) C hp.1
      exact ⟨_, _, he, .inr ⟨rfl, .ret, (hIx _).put _ hp.2 (by omega) t3.1 rfl, two_put t3⟩⟩
    | exit id =>
      obtain ⟨t3, he⟩ := last (some (.exit id)) C hp.1
      exact ⟨_, _, he, .inr ⟨rfl, .exit id, (hIx _).put _ hp.2 (by omega) t3.1 rfl, two_put t3⟩⟩
    | goto t =>
      obtain ⟨t3, he⟩ := last (some (.goto t)) C hp.1
      exact ⟨_, _, he, .inr ⟨rfl, .goto t, (hIx _).put _ hp.2 (by omega) t3.1 rfl, two_put t3⟩⟩
    | panic ch => exact hp.elim
    | outgrown => exact hp.elim
  · rintro e C ⟨⟨v, rfl⟩, (⟨xs, hS, hi, ht⟩ | ⟨pre, hSp, c, hi, ht⟩)⟩
    · have he := run_endLoop (P := P) ht.1 (by rw [book.2.1]; simp)
      rw [book.2.2.1] at he
      exact ⟨none, _, he, hdone _ xs _ (Nat.le_refl _) hS (hI.put _ hi (by omega) ht.1 rfl) ((World.putObj_heap_other (by omega)).trans ht.2)⟩
    · have he := run_endLoop (P := P) ht.1 (by rw [book.2.1]; simp)
      rw [book.2.2.1] at he
      exact ⟨some c, _, he, hstop _ c pre _ (Nat.le_refl _) hSp ((hIx c).put _ hi (by omega) ht.1 rfl) ((World.putObj_heap_other (by omega)).trans ht.2)⟩
theorem range_turns {α : Type} {g : Operand} {ps : Array Tmp} {assign body : Code} {Q : Exit → Act → World → Prop} {a : Act} {w : World}
    (hro : F.round = none) (h1 : 1 ≤ n) {gf : Nat} {lb : Array Value} (hg : a.eval g = .func (.func gf) #[] lb) (hFg : F.fn gf) (eg : ∀ args w, (callFunc gf args).run P w = .ok (.enter gf args) w)
    {encs : α → Array Value} {Kp : World → World → Prop} {own : Nat → Prop} {Inv : World → Prop} {S Sp : List α → Prop} {N : Nat} {w0 : World} (hseq : SeqTurns F (n - 1) P gf lb encs Kp own Inv S Sp N w0) (hown : ∀ r, own r → r < w.heap.size)
    (hKr : ∀ W : World, Kp W W) (hKt : ∀ {A B C : World}, Kp A B → Kp B C → Kp A C) (hKb : ∀ (W : World) (l : Nat) (o o' : Obj), w.heap.size ≤ l → W.heap[l]? = some o → o.isCells = false → o.isWalk = false → Kp W (W.putObj l o')) (hb0 : Below w0.heap.size w0 w) (hps : ∀ x, (encs x).size = ps.size)
    (I : List α → World → Prop) (Ix : Code → List α → World → Prop) (hI : Stays own Inv w.heap.size I) (hIx : ∀ c, Stays own Inv w.heap.size (Ix c)) (h0 : I [] w) (a₁ : α → Act)
    (hassign : ∀ (l : Nat) (x : α) (W : World) (K : Act → World → Prop), K (a₁ x) W → assign.wpIn (F.inRound l) (n - 1 - 1) P (Exit.then K (fun _ _ _ => False)) { tmps := (ps.zip (encs x)).foldl (fun t (p, v) => t.setIfInBounds p v) a.tmps, defers := [] } W)
    (hbody : ∀ (l : Nat) (pre : List α) (x : α) (W : World), I pre W → pre.length < N → body.wpIn (F.inRound l) (n - 1 - 1) P (ownPostG w.heap.size Kp I Ix (pre ++ [x]) W) (a₁ x) W)
    (hdone : ∀ (D : Nat) (xs : List α) (W : World), w.heap.size ≤ D → S xs → I xs W → W.heap[D]? = some (.deferred (some [])) → Q .normal { a with defers := { target := .collected D, args := #[] } :: a.defers } W)
    (hstop : ∀ (D : Nat) (c : Code) (pre : List α) (W : World), w.heap.size ≤ D → Sp pre → Ix c pre W → W.heap[D]? = some (.deferred (some [])) → c.wpIn F n P Q { a with defers := { target := .collected D, args := #[] } :: a.defers } W) :
    (Code.rangeFunc g ps assign body).wpIn F n P Q a w :=
  range_turnsA hro h1 hg hFg eg hseq hown hKt hKb hb0 hps I Ix hI hIx h0 (fun x a' _ => a' = a₁ x) (fun _ _ _ _ _ _ h _ _ _ => h)
    (fun l _ x W K hi hK => hassign l x W K (hK _ W (KeepsFrom.refl _ _) (hKr W) hi rfl)) (fun l pre x a' W hi ha hl => by rw [ha]; exact hbody l pre x W hi hl) hdone hstop
end
end Go.Proofs.YtfeolbgenpknfaaGreat
