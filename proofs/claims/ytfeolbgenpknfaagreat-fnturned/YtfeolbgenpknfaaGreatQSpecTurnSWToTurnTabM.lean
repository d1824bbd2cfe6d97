/- What is proved here: the specification's step by turned bits, in new memory; nothing that was there turns.
   What is proved here: a row of plain cells is made ready to be gone along by turned bits, in a new block; nothing that was there turns.
   What is said here: the table of a turned row, as it is filled, as plain mathematics. -/
import Derived.Test.YtfeolbgenpknfaaGreatQSpecTurnW
import Derived.Test.YtfeolbgenpknfaaGreatQPlainWToImplFactorW
import Derived.Test.YtfeolbgenpknfaaGreatQStartMToTurnSeqM
namespace Go.Proofs.YtfeolbgenpknfaaGreat
open Go.RowKit

theorem addT (n m : Nat) (s : Option Addr) (c : Nat) (P : Nat → Bool) (W : World) (hn0 : 1 ≤ n) (hn : n ≤ 60) (hm : m = (n + 31) / 32) (h : BitsAt W s m P) :
    Calls Tryz.prog 74 #[.agg #[.int .i64 (n : Int), .slice s m c], .agg #[.int .i64 (n : Int), .slice s m c], .int .i64 0] W fun e W' => NewBits W (n : Int) m (fun j => decide (1 ≤ j ∧ j < n) && P (j - 1)) e W' := by
  obtain ⟨k, hk⟩ : ∃ k, n = k + 1 := ⟨n - 1, by omega⟩
  have h9 := addB k m s c P W (by omega) (by omega) h
  rw [← int_succ hk] at h9
  refine h9.mono (fun _ _ ⟨h, h1, h2⟩ => ⟨h, h1, h2.congr (fun j => ?_)⟩)
  congr 1
  rw [decide_eq_decide]
  omega
theorem orT (n m : Nat) (s s' : Option Addr) (c c' : Nat) (P Q : Nat → Bool) (W : World) (hn0 : 1 ≤ n) (hm : 1 ≤ m ∧ m ≤ 1048576) (h : BitsAt W s m P) (h' : BitsAt W s' m Q) :
    Calls Tryz.prog 73 #[.agg #[.int .i64 (n : Int), .slice s m c], .agg #[.int .i64 (n : Int), .slice s' m c']] W fun e W' => NewBits W (n : Int) m (fun j => P j || Q j) e W' := by
  obtain ⟨k, hk⟩ : ∃ k, n = k + 1 := ⟨n - 1, by omega⟩
  have h9 := orB k m s s' c c' P Q W hm h h'
  rw [← int_succ hk] at h9
  exact h9
theorem getT (n m k : Nat) (s : Option Addr) (c : Nat) (P : Nat → Bool) (W : World) (hm : m = (n + 31) / 32) (hn : n ≤ 60) (hk : k < n) (h : BitsAt W s m P) :
    Calls Tryz.prog 75 #[.agg #[.int .i64 (n : Int), .slice s m c], .int .i64 (k : Int)] W fun e W' => e = .returned (.bool (P k)) ∧ Below W.heap.size W W' := by
  obtain ⟨j, hj⟩ : ∃ j, n = j + 1 := ⟨n - 1, by omega⟩
  have h9 := getBit j m k s c P W (by omega) (by omega) (by omega) h
  rw [← int_succ hj] at h9
  exact h9
set_option maxRecDepth 100000 in
set_option maxHeartbeats 8000000 in
theorem l08Step_any (sa : Option Addr) (n cap c m : Nat) (f : Nat → Cel) (sv : Option Addr) (cv : Nat) (T : Nat → Bool) (w : World) (hn0 : 1 ≤ n) (hn : n ≤ 60) (hr : CRow w w.heap.size sa n f) (hsz : ∀ i, i < n → (f i).c.size ≤ 256) (hc9 : c < 256) (hm : m = (n + 31) / 32) (hv : BitsAt w sv m T) :
    Calls Tryz.prog 44 #[.slice sa n cap, .agg #[.int .i64 (n : Int), .slice sv m cv], .int .i64 (c : Int)] w fun e w' => StepBits w (n : Int) m (turnB f n T c) (!turnB f n T c (n - 1)) e w' := by
  have q1 := boxing w 29 (n : Int) sv m cv
  have q2 := sboxing (w.alloc (.cells #[.int .i64 (n : Int), .slice sv m cv] 29)) 0 none 0 0 false
  obtain ⟨V, hV⟩ : ∃ V, (w.alloc (.cells #[.int .i64 (n : Int), .slice sv m cv] 29)).alloc (.cells #[.int .i64 0, .slice none 0 0, .bool false] 39) = V := ⟨_, rfl⟩
  rw [hV] at q2
  have S0 : Hid (Since w V) := since_call (since_call (since_refl _) q1.1) q2.1
  have YV : Hid (Boxed V w.heap.size 29 (n : Int) sv m cv) := q1.2.1.kept q2.1 rfl
  have ZV : Hid (SBox V (w.heap.size + 1) 0 none 0 0 false) := by rw [← q1.2.2]; exact q2.2.1
  have zv : Hid (V.heap.size = w.heap.size + 1 + 1) := by rw [← q1.2.2]; exact q2.2.2
  have hr2 : CRow V V.heap.size sa n f := (hr.kept S0.out.below).up S0.out.size
  have hv2 := hv.since S0.out
  have hm1 : 1 ≤ m ∧ m ≤ 1048576 := by omega
  have HADD : Hid (∀ W, Since V W → Calls Tryz.prog 74 #[.agg #[.int .i64 (n : Int), .slice sv m cv], .agg #[.int .i64 (n : Int), .slice sv m cv], .int .i64 0] W fun e W' => NewBits W (n : Int) m (fun j => decide (1 ≤ j ∧ j < n) && T (j - 1)) e W') := fun W hW => addT n m sv cv T W hn0 hn hm (hv2.since hW)
  have HBY : Hid (∀ (W : World), Since V W → Calls Tryz.prog 57 #[.slice sa n cap, .int .i64 (c : Int)] W fun e W' => NewBits W (n : Int) m (lackB f n c) e W') := fun W hW => l08Byte_any sa n cap c m f W hn0 hn ((hr2.kept hW.below).up hW.size) hsz hc9 hm
  have HOR : Hid (∀ (W : World) (s s' : Option Addr) (c c' : Nat) (P Q : Nat → Bool), BitsAt W s m P → BitsAt W s' m Q → Calls Tryz.prog 73 #[.agg #[.int .i64 (n : Int), .slice s m c], .agg #[.int .i64 (n : Int), .slice s' m c']] W fun e W' => NewBits W (n : Int) m (fun j => P j || Q j) e W') := fun W s s' c c' P Q h h' => orT n m s s' c c' P Q W hn0 hm1 h h'
  obtain ⟨l, hl⟩ : ∃ l, n - 1 = l := ⟨_, rfl⟩
  rw [hl]
  have HGET : Hid (∀ (W : World) (s : Option Addr) (c' : Nat), BitsAt W s m (turnB f n T c) → Calls Tryz.prog 75 #[.agg #[.int .i64 (n : Int), .slice s m c'], .int .i64 (l : Int)] W fun e W' => e = .returned (.bool (turnB f n T c l)) ∧ Below W.heap.size W W') := fun W s c' h => getT n m l s c' _ W hm hn (by omega) h
  have hli : (n : Int) - 1 = (l : Int) := by omega
  have hlw : IntKind.i64.wrap ((n : Int) - 1) = (l : Int) := by rw [IntKind.wrap_i64]; omega
  have hlw2 : IntKind.i64.wrap (l : Int) = (l : Int) := by rw [IntKind.wrap_i64]; omega
  clear q1 q2 hr hv hr2 hv2 hsz hm hl
  obtain ⟨y0, y1⟩ := YV.out.cells
  have yl := YV.out.lt
  go_enter Tryz.func44, Tryz.ntmps44
  go_wp2_with fail
  clear hV
  refine (HADD.out V (since_refl _)).mono ?_
  rintro e u1 ⟨h1, ⟨s1, c1, rfl, hb, ho⟩, hv⟩
  unfold vecV
  have S1 : Hid (Since V u1) := ⟨hb⟩
  have B1 : Hid (∀ X, Since u1 X → BitsAt X s1 m (fun j => decide (1 ≤ j ∧ j < n) && T (j - 1))) := fun X hX => ⟨h1, ownS_since ho hX, hv⟩
  clear hb ho hv y0 y1 yl
  go_wp2_with fail
  refine (HBY.out u1 S1.out).mono ?_
  rintro e u2 ⟨h2, ⟨s2, c2, rfl, hb, ho⟩, hv⟩
  unfold vecV
  have S2 : Hid (Since V u2) := since_call S1.out hb
  have T12 : Hid (Since u1 u2) := ⟨hb⟩
  have B2 : Hid (∀ X, Since u2 X → BitsAt X s2 m (lackB f n c)) := fun X hX => ⟨h2, ownS_since ho hX, hv⟩
  clear hb ho hv
  go_wp2_with fail
  refine (HOR.out u2 s1 s2 c1 c2 _ _ (B1.out u2 T12.out) (B2.out u2 (since_refl _))).mono ?_
  rintro e u3 ⟨h3, ⟨s3, c3, rfl, hb, ho⟩, hv⟩
  unfold vecV
  have S3 : Hid (Since V u3) := since_call S2.out hb
  have O3 : Hid (OwnS u3 u2.heap.size s3 m h3 ∧ VecIs h3 (turnB f n T c) m) := ⟨ho, hv⟩
  have q3 := boxing u3 29 (n : Int) s3 m c3
  clear hb ho hv
  go_wp2_with fail
  generalize hV4 : u3.alloc (.cells #[.int .i64 (n : Int), .slice s3 m c3] 29) = V4 at *
  have S4 : Hid (Since V V4) := since_call S3.out q3.1
  have X4 : Hid (Boxed V4 u3.heap.size 29 (n : Int) s3 m c3) := q3.2.1
  have O4 : Hid (OwnS V4 u2.heap.size s3 m h3) := O3.out.1.kept q3.1 rfl
  have B4 : Hid (∀ X, Since V4 X → BitsAt X s3 m (turnB f n T c)) := fun X hX => ⟨h3, ownS_since O4.out hX, O3.out.2⟩
  have Z4 : Hid (SBox V4 (w.heap.size + 1) 0 none 0 0 false) := ZV.out.kept S4.out.below rfl
  have hzp : Hid (V.heap.size ≤ u2.heap.size) := S2.out.size
  have hnp1 : w.heap.size + 1 ≠ u3.heap.size := by have := S3.out.size; have := zv.out; omega
  have hnp2 : u3.heap.size ≠ w.heap.size + 1 := fun h => hnp1 h.symm
  clear q3 hV4
  generalize u3.heap.size = p at *
  obtain ⟨x0, x1⟩ := X4.out.cells
  have xl := X4.out.lt
  go_region_held3 (fun W => W.cell? ⟨p, 0, none⟩ = some (.int .i64 (n : Int)) ∧ W.cell? ⟨p, 1, none⟩ = some (.slice s3 m c3)) (go_keep) (first
    | (go_at_call 75; (refine (HGET.out _ _ _ (B4.out _ (by first | exact since_drew (since_refl _) | exact since_refl _))).mono ?_); rintro e u5 ⟨rfl, hb⟩; have S5 : Hid (Since V4 u5) := (by refine since_call ?_ hb; first | exact since_drew (since_refl _) | exact since_refl _); obtain ⟨x0, x1⟩ := (X4.out.since S5.out).cells; have xl := (X4.out.since S5.out).lt; obtain ⟨a0, a1, a2, a3, a4, a5⟩ := (Z4.out.since S5.out).six; have zl := (Z4.out.since S5.out).lt; clear hb))
  all_goals
    go_wp2_with fail
    refine bodyPost_ret (v := stepV (n : Int) s3 m c3 (!turnB f n T c l)) (by simp [results, Tryz.results44, go_sem, stepV, a0, a1, a2]) rfl ?_
    have hS9 := since_call (since_call S0.out S4.out.below) S5.out.below
    refine ⟨h3, ⟨_, _, rfl, (since_set (since_set (since_set hS9 (by show w.heap.size ≤ w.heap.size + 1; omega)) (by show w.heap.size ≤ w.heap.size + 1; omega)) (by show w.heap.size ≤ w.heap.size + 1; omega)).below, ?_⟩, O3.out.2⟩
    have hz9 := zv.out
    have hz8 := hzp.out
    rcases O4.out.kept S5.out.below rfl with h | ⟨g5, h1, h2, h3⟩
    · exact Or.inl h
    · exact Or.inr ⟨g5, h1, by omega, ((h3.setOther _ _ (by show w.heap.size + 1 ≠ g5; omega)).setOther _ _ (by show w.heap.size + 1 ≠ g5; omega)).setOther _ _ (by show w.heap.size + 1 ≠ g5; omega)⟩
end Go.Proofs.YtfeolbgenpknfaaGreat
namespace Go.Proofs.YtfeolbgenpknfaaGreat
open Go.RowKit

/-- A turned row, in its block. -/
structure TRow (W : World) (b : Nat) (sa : Option Addr) (n cap al : Nat) (d u : Int) (tab : Nat → Nat) : Prop where
  c0 : W.cell? ⟨b, 0, none⟩ = some (.slice sa n cap)
  c1 : W.cell? ⟨b, 1, none⟩ = some (.int .u64 (al : Int))
  c2 : W.cell? ⟨b, 2, none⟩ = some (.int .u32 d)
  c3 : W.cell? ⟨b, 3, none⟩ = some (.int .i32 u)
  tb : ∀ j, j < 256 → W.cell? ⟨b, 5 + j, none⟩ = some (.int .u64 (tab j : Int))
  fr : ∀ j, j < 261 → W.frozen? ⟨b, j, none⟩ = false
  lt : b < W.heap.size
theorem Tryz.turnedZero : Tryz.zeroCells96 = #[.slice none 0 0, .int .u64 0, .int .u32 0, .int .i32 0, .int .u32 0] ++ Array.replicate 256 (.int .u64 0) := by kernel_rfl
theorem trow_new (W : World) (sa : Option Addr) (n cap al : Nat) (ty : TypeId) : TRow (W.alloc (.cells ((Tryz.zeroCells96.setIfInBounds 0 (.slice sa n cap)).setIfInBounds 1 (.int .u64 (al : Int))) ty)) W.heap.size sa n cap al 0 0 (fun _ => 0) := by
  rw [Tryz.turnedZero]
  refine ⟨?_, ?_, ?_, ?_, fun j hj => ?_, fun j hj => frozen_of_row _ _ _ _ _ (heap_alloc_new W _), by simp⟩
  · rw [World.cell?_alloc_mark]; simp
  · rw [World.cell?_alloc_mark]; simp
  · rw [World.cell?_alloc_mark]; simp
  · rw [World.cell?_alloc_mark]; simp
  · rw [World.cell?_alloc_mark, Array.getElem?_setIfInBounds_ne (by omega), Array.getElem?_setIfInBounds_ne (by omega), Array.getElem?_append_right (by simp)]
    simp [hj]
theorem TRow.kept {W W' : World} {B b : Nat} {sa : Option Addr} {n cap al : Nat} {d u : Int} {tab : Nat → Nat} (h : TRow W b sa n cap al d u tab) (hb : Below B W W') (hB : b < B) : TRow W' b sa n cap al d u tab :=
  ⟨by rw [hb.cell (p := ⟨b, 0, none⟩) hB]; exact h.c0, by rw [hb.cell (p := ⟨b, 1, none⟩) hB]; exact h.c1, by rw [hb.cell (p := ⟨b, 2, none⟩) hB]; exact h.c2, by rw [hb.cell (p := ⟨b, 3, none⟩) hB]; exact h.c3, fun j hj => by rw [hb.cell (p := ⟨b, 5 + j, none⟩) hB]; exact h.tb j hj, fun j hj => by rw [hb.frozen (p := ⟨b, j, none⟩) hB]; exact h.fr j hj, Nat.lt_of_lt_of_le h.lt hb.size⟩
theorem TRow.drew {W : World} {b : Nat} {sa : Option Addr} {n cap al : Nat} {d u : Int} {tab : Nat → Nat} (h : TRow W b sa n cap al d u tab) : TRow W.drew b sa n cap al d u tab := ⟨h.c0, h.c1, h.c2, h.c3, h.tb, h.fr, h.lt⟩
theorem TRow.set {W : World} {b : Nat} {sa : Option Addr} {n cap al : Nat} {d u : Int} {tab : Nat → Nat} (h : TRow W b sa n cap al d u tab) {x : Nat} (hx : x < 256) (v : Nat) : TRow (W.setCell ⟨b, 5 + x, none⟩ (.int .u64 (v : Int))) b sa n cap al d u (fun j => if j = x then v else tab j) := by
  have hne : ∀ {i : Nat}, i ≠ 5 + x → (⟨b, 5 + x, none⟩ : Addr) ≠ ⟨b, i, none⟩ := fun hi hh => hi (by injection hh with _ h2; exact h2.symm)
  refine ⟨?_, ?_, ?_, ?_, fun j hj => ?_, fun j hj => by rw [World.frozen?_setCell]; exact h.fr j hj, by simpa [World.setCell] using h.lt⟩
  · rw [World.cell?_setCell_other _ _ _ _ (hne (by omega))]; exact h.c0
  · rw [World.cell?_setCell_other _ _ _ _ (hne (by omega))]; exact h.c1
  · rw [World.cell?_setCell_other _ _ _ _ (hne (by omega))]; exact h.c2
  · rw [World.cell?_setCell_other _ _ _ _ (hne (by omega))]; exact h.c3
  · by_cases e : j = x
    · subst e
      rw [World.cell?_setCell_same _ _ _ (h.tb j hj)]
      simp
    · rw [World.cell?_setCell_other _ _ _ _ (hne (by omega)), h.tb j hj]
      simp [e]
theorem TRow.done {W : World} {b : Nat} {sa : Option Addr} {n cap al : Nat} {d u : Int} {tab : Nat → Nat} (h : TRow W b sa n cap al d u tab) (x : Int) : TRow (W.setCell ⟨b, 2, none⟩ (.int .u32 x)) b sa n cap al x u tab := by
  have hne : ∀ {i : Nat}, i ≠ 2 → (⟨b, 2, none⟩ : Addr) ≠ ⟨b, i, none⟩ := fun hi hh => hi (by injection hh with _ h2; exact h2.symm)
  refine ⟨?_, ?_, World.cell?_setCell_same _ _ _ h.c2, ?_, fun j hj => ?_, fun j hj => by rw [World.frozen?_setCell]; exact h.fr j hj, by simpa [World.setCell] using h.lt⟩
  · rw [World.cell?_setCell_other _ _ _ _ (hne (by omega))]; exact h.c0
  · rw [World.cell?_setCell_other _ _ _ _ (hne (by omega))]; exact h.c1
  · rw [World.cell?_setCell_other _ _ _ _ (hne (by omega))]; exact h.c3
  · rw [World.cell?_setCell_other _ _ _ _ (hne (by omega))]; exact h.tb j hj
theorem TRow.lock {W : World} {b : Nat} {sa : Option Addr} {n cap al : Nat} {d u : Int} {tab : Nat → Nat} (h : TRow W b sa n cap al d u tab) (x : Int) : TRow (W.setCell ⟨b, 3, none⟩ (.int .i32 x)) b sa n cap al d x tab := by
  have hne : ∀ {i : Nat}, i ≠ 3 → (⟨b, 3, none⟩ : Addr) ≠ ⟨b, i, none⟩ := fun hi hh => hi (by injection hh with _ h2; exact h2.symm)
  refine ⟨?_, ?_, ?_, World.cell?_setCell_same _ _ _ h.c3, fun j hj => ?_, fun j hj => by rw [World.frozen?_setCell]; exact h.fr j hj, by simpa [World.setCell] using h.lt⟩
  · rw [World.cell?_setCell_other _ _ _ _ (hne (by omega))]; exact h.c0
  · rw [World.cell?_setCell_other _ _ _ _ (hne (by omega))]; exact h.c1
  · rw [World.cell?_setCell_other _ _ _ _ (hne (by omega))]; exact h.c2
  · rw [World.cell?_setCell_other _ _ _ _ (hne (by omega))]; exact h.tb j hj
theorem only_setT {a w : World} {b i : Nat} {v : Value} (h : a.grownBy w (some b)) : a.grownBy (w.setCell ⟨b, i, none⟩ v) (some b) :=
  h.trans ⟨rfl, rfl, rfl, by simp [World.setCell], fun k _ hk => Below.heap_setCell _ _ _ _ (fun e => hk (by simp [e]))⟩
theorem grown_drewT {a w : World} {b : Nat} (h : a.grownBy w (some b)) : a.grownBy w.drew (some b) := ⟨h.os, h.tape, h.output, h.size, h.block⟩
theorem cells_grownT {w W : World} {b n : Nat} {sa : Option Addr} {f : Nat → Cel} (h : CRow w b sa n f) (hg : w.grownBy W (some b)) (hb : b < w.heap.size) : CRow W b sa n f :=
  h.kept ⟨hg.os, hg.tape, hg.output, hg.size, fun j hj => hg.block j (by omega) (fun e => by injection e with e; omega)⟩
open Classical in
theorem implPlain_yes (sa : Option Addr) (n cap : Nat) (f : Nat → Cel) (w : World) (hn : n ≤ maxLen) (hr : CRow w w.heap.size sa n f) (hc : ∀ i, i < n → (f i).c.size ≤ maxLen) (h : PlainP n f) :
    Calls Tryz.prog 66 #[.slice sa n cap] w fun e w' => e = .returned (.bool true) ∧ Below w.heap.size w w' :=
  (implPlain_any sa n cap f w hn hr hc).mono fun _ _ h2 => ⟨by rw [h2.1, decide_eq_true h], h2.2⟩
open Classical in
theorem implPlain_no (sa : Option Addr) (n cap : Nat) (f : Nat → Cel) (w : World) (hn : n ≤ maxLen) (hr : CRow w w.heap.size sa n f) (hc : ∀ i, i < n → (f i).c.size ≤ maxLen) (h : ¬ PlainP n f) :
    Calls Tryz.prog 66 #[.slice sa n cap] w fun e w' => e = .returned (.bool false) ∧ Below w.heap.size w w' :=
  (implPlain_any sa n cap f w hn hr hc).mono fun _ _ h2 => ⟨by rw [h2.1, decide_eq_false h], h2.2⟩
set_option maxRecDepth 100000 in
set_option maxHeartbeats 4000000 in
theorem turnedRowOf_yes (sa : Option Addr) (n cap : Nat) (f : Nat → Cel) (w : World) (hn : n ≤ maxLen) (hr : CRow w w.heap.size sa n f) (hc : ∀ i, i < n → (f i).c.size ≤ maxLen) (h : PlainP n f) :
    Calls Tryz.prog 33 #[.slice sa n cap] w fun e w' => ∃ b : Nat, e = .returned (.pointer (some ⟨b, 0, none⟩)) ∧ w.heap.size ≤ b ∧ Below w.heap.size w w' ∧ TRow w' b sa n cap (2 ^ n - 1) 0 0 (fun _ => 0) := by
  have C := implPlain_yes sa n cap f w hn hr hc h
  have hn60 := h.1.2.1
  clear hn hr hc h
  have hpl : 2 ^ n < 18446744073709551616 := pow_lt64 (by omega)
  have hpp : 0 < 2 ^ n := Nat.pow_pos (by decide)
  have hpw := wrap_powP (r := n) (by omega)
  have hal : ((2 ^ n : Nat) : Int) - 1 = ((2 ^ n - 1 : Nat) : Int) := by omega
  have hwa : IntKind.u64.wrap ((2 ^ n - 1 : Nat) : Int) = ((2 ^ n - 1 : Nat) : Int) := by rw [IntKind.wrap_u64]; omega
  obtain ⟨al, hae⟩ : ∃ al, 2 ^ n - 1 = al := ⟨_, rfl⟩
  rw [hae] at hal hwa ⊢
  clear hae
  go_enter Tryz.func33, Tryz.ntmps33
  go_wp2_with fail
  refine C.mono ?_
  rintro e w1 ⟨rfl, hb1⟩
  have B1 : Hid (Below w.heap.size w w1) := hb1
  clear hb1 C
  generalize ((2 ^ n : Nat) : Int) = P at *
  go_wp2_with fail
  go_ret
  exact ⟨_, rfl, B1.out.size, B1.out.alloc B1.out.size _, trow_new w1 sa n cap al _⟩
theorem turnedRowOf_no (sa : Option Addr) (n cap : Nat) (f : Nat → Cel) (w : World) (hn : n ≤ maxLen) (hr : CRow w w.heap.size sa n f) (hc : ∀ i, i < n → (f i).c.size ≤ maxLen) (h : ¬ PlainP n f) :
    Calls Tryz.prog 33 #[.slice sa n cap] w fun e w' => e = .returned (.pointer none) ∧ Below w.heap.size w w' := by
  have C := implPlain_no sa n cap f w hn hr hc h
  clear hn hr hc h
  go_enter Tryz.func33, Tryz.ntmps33
  go_wp2_with fail
  refine C.mono ?_
  rintro e w1 ⟨rfl, hb1⟩
  have B1 : Hid (Below w.heap.size w w1) := hb1
  clear hb1 C
  go_wp2_with fail
  go_ret
  exact ⟨rfl, B1.out⟩
end Go.Proofs.YtfeolbgenpknfaaGreat
namespace Go.Proofs.YtfeolbgenpknfaaGreat

/-- The bits of one byte's number, when k cells were written down. -/
def tabP (f : Nat → Cel) (n k c : Nat) : Nat → Bool := fun j => decide (j < n) && !(decide (j < k) && hasByte (f j).c c)
/-- The table when k cells were written down. -/
def TurnAt (f : Nat → Cel) (n k : Nat) (tab : Nat → Nat) : Prop := ∀ c, c < 256 → IsBits (tab c) (tabP f n k c)
/-- And the first m bytes of the next one. -/
def TurnTo (f : Nat → Cel) (n k m : Nat) (tab : Nat → Nat) : Prop := ∀ c, c < 256 → IsBits (tab c) (fun j => tabP f n k c j && !(decide (k = j) && hasUpTo (f k).c m c))
theorem turnAt_zero (f : Nat → Cel) {n : Nat} (hn : n ≤ 63) : TurnAt f n 0 (fun _ => 2 ^ n - 1) := fun c _ => (bits_all hn).congr (fun j => by
  unfold tabP allB
  rw [decide_eq_false (show ¬ j < 0 by omega)]
  simp)
theorem TurnAt.same {f : Nat → Cel} {n k : Nat} {tab tab' : Nat → Nat} (h : TurnAt f n k tab) (e : ∀ j, j < 256 → tab' j = tab j) : TurnAt f n k tab' := fun c hc => by rw [e c hc]; exact h c hc
theorem turnTo_begin {f : Nat → Cel} {n k : Nat} {tab : Nat → Nat} (h : TurnAt f n k tab) : TurnTo f n k 0 tab := fun c hc => (h c hc).congr (fun j => by rw [hasUpTo_zero]; simp)
theorem turnTo_end {f : Nat → Cel} {n k : Nat} {tab : Nat → Nat} (h : TurnTo f n k (f k).c.size tab) : TurnAt f n (k + 1) tab := fun c hc => (h c hc).congr (fun j => by
  rw [hasUpTo_all]
  unfold tabP
  by_cases e : k = j
  · subst e
    rw [decide_eq_false (show ¬ k < k by omega), decide_eq_true (show k < k + 1 by omega)]
    simp
  · rw [decide_eq_false e]
    by_cases e2 : j < k
    · rw [decide_eq_true e2, decide_eq_true (show j < k + 1 by omega)]
      simp
    · rw [decide_eq_false e2, decide_eq_false (show ¬ j < k + 1 by omega)]
      simp)
theorem turnTo_step {f : Nat → Cel} {n k m : Nat} {tab : Nat → Nat} (h : TurnTo f n k m tab) (hk : k < 63) (hm : m < (f k).c.size) : TurnTo f n k (m + 1) (fun j => if j = (f k).c[m].toNat then tab j ^^^ (tab j &&& 2 ^ k) else tab j) := fun c hc => by
  show IsBits (if c = (f k).c[m].toNat then tab c ^^^ (tab c &&& 2 ^ k) else tab c) _
  by_cases e : c = (f k).c[m].toNat
  · rw [if_pos e]
    refine (bits_andNot (h c hc) (bits_pow (k := k) (by omega))).congr (fun j => ?_)
    rw [hasUpTo_succ _ _ _ hm]
    have : ((f k).c[m].toNat == c) = true := by rw [e]; simp
    rw [this]
    by_cases e2 : k = j
    · subst e2; simp
    · simp [e2]
  · rw [if_neg e]
    refine (h c hc).congr (fun j => ?_)
    rw [hasUpTo_succ _ _ _ hm]
    have : ((f k).c[m].toNat == c) = false := by simp; exact fun h => e h.symm
    rw [this, Bool.or_false]
theorem turnAt_lack {f : Nat → Cel} {n : Nat} {tab : Nat → Nat} (h : TurnAt f n n tab) {c : Nat} (hc : c < 256) : IsBits (tab c) (lackB f n c) := (h c hc).congr (fun j => by
  unfold tabP lackB
  cases decide (j < n) <;> simp)
end Go.Proofs.YtfeolbgenpknfaaGreat
