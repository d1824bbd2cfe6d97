/- What is said here: the windows of a text, one behind the other, and the ends that are found: plain mathematics, for what looks from behind.
   What is proved here: the program's windows hands out the windows of a text, one by one, and whether each goes with the cells: its contract; its row's table may be made meanwhile. -/
import Derived.Test.YtfeolbgenpknfaaGreatQFromBehWToLookM
import Derived.Test.YtfeolbgenpknfaaGreatQLookFW
namespace Go.Proofs.YtfeolbgenpknfaaGreat
open Go.RowKit

/-- The piece of a text that a window shows. -/
def pieceT (n : Nat) (t : ByteArray) (a : Nat) : ByteArray := t.extract a (a + n)
theorem piece_size {n : Nat} {t : ByteArray} {a : Nat} (h : a + n ≤ t.size) : (pieceT n t a).size = n := by unfold pieceT; rw [cut_size h]; omega
theorem look_one {n : Nat} {f : Nat → Cel} {t : ByteArray} {lk bd lk' bd' : Nat} {fc fc' : Bool} (h : LookP n f t lk bd fc) (h' : LookP n f t lk' bd' fc') : lk = lk' ∧ bd = bd' ∧ fc = fc' := by
  have e3 : fc = fc' := by
    cases fc with
    | true => exact (h'.fac.2 (h.fac.1 rfl)).symm
    | false =>
      cases fc' with
      | true => exact absurd (h.fac.2 (h'.fac.1 rfl)) (by simp)
      | false => rfl
  subst e3
  refine ⟨?_, border_one h.bd h'.bd, rfl⟩
  cases fc with
  | true => rw [h.all rfl, h'.all rfl]
  | false =>
    obtain ⟨_, _, h1, h2⟩ := h.less rfl
    obtain ⟨_, _, h3, h4⟩ := h'.less rfl
    rcases Nat.lt_trichotomy lk lk' with hl | hl | hl
    · exact absurd (h4 lk hl) h1
    · exact hl
    · exact absurd (h2 lk' hl) h3
theorem look_ex {n : Nat} (f : Nat → Cel) (t : ByteArray) (hn : n ≤ 60) : ∃ (lk bd : Nat) (fc : Bool), LookP n f t lk bd fc := by
  by_cases h : ∃ k, k ≤ t.size ∧ ¬ SomeS n f t k
  · -- the least of them
    have hmin : ∀ k, k ≤ t.size → ¬ SomeS n f t k → ∃ j, j ≤ t.size ∧ ¬ SomeS n f t j ∧ ∀ i, i < j → SomeS n f t i := by
      intro k
      induction k using Nat.strongRecOn with
      | ind k ih =>
        intro h1 h2
        by_cases h3 : ∃ i, i < k ∧ ¬ SomeS n f t i
        · obtain ⟨i, h4, h5⟩ := h3
          exact ih i h4 (by omega) h5
        · exact ⟨k, h1, h2, fun i hi => Classical.byContradiction (fun hc => h3 ⟨i, hi, hc⟩)⟩
    obtain ⟨k0, h1, h2⟩ := h
    obtain ⟨j, hj, hno, hyes⟩ := hmin k0 h1 h2
    cases j with
    | zero => exact absurd some_zero hno
    | succ j =>
      have he : uptoB n f t (j + 1) = uptoB n f t j ++ [(j + 1, begN n f t (j + 1))] := uptoB_succ n f t j
      exact ⟨_, _, _, look_less hn hj he.symm ((begN_none hn hj).2 hno) (fun y hy => by
        obtain ⟨i, hi, rfl⟩ := List.mem_map.1 hy
        have hi2 := List.mem_range.1 hi
        intro hz
        exact (begN_none hn (by omega)).1 hz (hyes (i + 1) (by omega)))⟩
  · refine ⟨_, _, _, look_all (f := f) (t := t) hn (fun y hy => ?_)⟩
    obtain ⟨i, hi, rfl⟩ := List.mem_map.1 hy
    have hi2 := List.mem_range.1 hi
    intro hz
    exact h ⟨i + 1, by omega, (begN_none hn (by omega)).1 hz⟩
/-- What is seen of a window: how many bytes were looked at, the border, whether it is a factor. -/
noncomputable def lkN (n : Nat) (f : Nat → Cel) (u : ByteArray) (hn : n ≤ 60) : Nat := (look_ex f u hn).choose
noncomputable def bdN (n : Nat) (f : Nat → Cel) (u : ByteArray) (hn : n ≤ 60) : Nat := (look_ex f u hn).choose_spec.choose
noncomputable def fcN (n : Nat) (f : Nat → Cel) (u : ByteArray) (hn : n ≤ 60) : Bool := (look_ex f u hn).choose_spec.choose_spec.choose
theorem lookN {n : Nat} (f : Nat → Cel) (u : ByteArray) (hn : n ≤ 60) : LookP n f u (lkN n f u hn) (bdN n f u hn) (fcN n f u hn) := (look_ex f u hn).choose_spec.choose_spec.choose_spec
theorem bdN_lt {n : Nat} (f : Nat → Cel) (u : ByteArray) (hn : n ≤ 60) (h1 : 1 ≤ n) : bdN n f u hn < n := by
  rcases (lookN f u hn).bd.1 with h | h
  · omega
  · exact h.1
theorem lkN_le {n : Nat} (f : Nat → Cel) (u : ByteArray) (hn : n ≤ 60) : lkN n f u hn ≤ u.size := by
  cases h : fcN n f u hn with
  | true => exact Nat.le_of_eq ((lookN f u hn).all h)
  | false => exact ((lookN f u hn).less h).2.1
section
variable (n : Nat) (f : Nat → Cel) (t : ByteArray) (hn : n ≤ 60)
/-- Where the windows stand. -/
noncomputable def posW : Nat → Nat
  | 0 => 0
  | i + 1 => posW i + (n - bdN n f (pieceT n t (posW i)) hn)
/-- A window: where it stands, how many bytes were looked at, how far the next one is; whether it goes with the cells. -/
noncomputable def winW (i : Nat) : (Nat × Nat × Nat) × Bool := ((posW n f t hn i, lkN n f (pieceT n t (posW n f t hn i)) hn, n - bdN n f (pieceT n t (posW n f t hn i)) hn), fcN n f (pieceT n t (posW n f t hn i)) hn)
/-- The first windows. -/
noncomputable def uptoW (k : Nat) : List ((Nat × Nat × Nat) × Bool) := (List.range k).map (winW n f t hn)
end
theorem uptoW_len {n : Nat} {f : Nat → Cel} {t : ByteArray} {hn : n ≤ 60} (k : Nat) : (uptoW n f t hn k).length = k := by simp [uptoW]
theorem uptoW_succ {n : Nat} {f : Nat → Cel} {t : ByteArray} {hn : n ≤ 60} (k : Nat) : uptoW n f t hn (k + 1) = uptoW n f t hn k ++ [winW n f t hn k] := by simp [uptoW, List.range_succ]
theorem posW_ge {n : Nat} {f : Nat → Cel} {t : ByteArray} {hn : n ≤ 60} (h1 : 1 ≤ n) : ∀ i, i ≤ posW n f t hn i
  | 0 => Nat.le_refl _
  | i + 1 => by
    have h2 := posW_ge (f := f) (t := t) (hn := hn) h1 i
    have h3 := bdN_lt f (pieceT n t (posW n f t hn i)) hn h1
    show i + 1 ≤ posW n f t hn i + (n - _)
    omega
theorem posW_le {n : Nat} {f : Nat → Cel} {t : ByteArray} {hn : n ≤ 60} : ∀ {k : Nat}, (∀ i, i < k → posW n f t hn i + n ≤ t.size) → posW n f t hn k ≤ t.size
  | 0, _ => Nat.zero_le _
  | k + 1, h => by
    have h1 := h k (Nat.lt_succ_self _)
    show posW n f t hn k + (n - _) ≤ _
    omega
/-- So many windows there are. -/
def LastW (n : Nat) (f : Nat → Cel) (t : ByteArray) (hn : n ≤ 60) (k : Nat) : Prop := (∀ i, i < k → posW n f t hn i + n ≤ t.size) ∧ ¬ posW n f t hn k + n ≤ t.size
theorem last_one {n : Nat} {f : Nat → Cel} {t : ByteArray} {hn : n ≤ 60} {k j : Nat} (h : LastW n f t hn k) (h' : LastW n f t hn j) : k = j := by
  rcases Nat.lt_trichotomy k j with hl | hl | hl
  · exact absurd (h'.1 k hl) h.2
  · exact hl
  · exact absurd (h.1 j hl) h'.2
theorem last_exW {n : Nat} (f : Nat → Cel) (t : ByteArray) (hn : n ≤ 60) (h1 : 1 ≤ n) : ∃ k, k ≤ t.size ∧ LastW n f t hn k := by
  have go : ∀ m, (∀ i, i < m → posW n f t hn i + n ≤ t.size) → ∀ d, t.size + 1 - m = d → m ≤ t.size + 1 → ∃ k, LastW n f t hn k := by
    intro m hm d
    induction d generalizing m with
    | zero =>
      intro h2 h3
      have h4 := hm t.size (by omega)
      have h5 := posW_ge (f := f) (t := t) (hn := hn) h1 t.size
      omega
    | succ d ih =>
      intro h2 h3
      by_cases h4 : posW n f t hn m + n ≤ t.size
      · exact ih (m + 1) (fun i hi => by
          by_cases e : i = m
          · rw [e]; exact h4
          · exact hm i (by omega)) (by omega) (by omega)
      · exact ⟨m, hm, h4⟩
  obtain ⟨k, hk⟩ := go 0 (fun i hi => absurd hi (Nat.not_lt_zero _)) _ rfl (Nat.zero_le _)
  refine ⟨k, ?_, hk⟩
  rcases Nat.eq_zero_or_pos k with h0 | h0
  · omega
  · have h2 := hk.1 (k - 1) (by omega)
    have h3 := posW_ge (f := f) (t := t) (hn := hn) h1 (k - 1)
    omega
/-- The ends of the windows that go with the cells. -/
def endsW (n : Nat) (L : List ((Nat × Nat × Nat) × Bool)) : List Int := (L.filter (fun x => x.2)).map (fun x => ((x.1.1 + n : Nat) : Int))
theorem endsW_yes {n : Nat} {L : List ((Nat × Nat × Nat) × Bool)} {x : (Nat × Nat × Nat) × Bool} (h : x.2 = true) : endsW n (L ++ [x]) = endsW n L ++ [((x.1.1 + n : Nat) : Int)] := by simp [endsW, List.filter_append, h]
theorem endsW_no {n : Nat} {L : List ((Nat × Nat × Nat) × Bool)} {x : (Nat × Nat × Nat) × Bool} (h : x.2 = false) : endsW n (L ++ [x]) = endsW n L := by simp [endsW, List.filter_append, h]
theorem endsW_len (n : Nat) (L : List ((Nat × Nat × Nat) × Bool)) : (endsW n L).length ≤ L.length := by unfold endsW; rw [List.length_map]; exact List.length_filter_le _ _
end Go.Proofs.YtfeolbgenpknfaaGreat
namespace Go.Proofs.YtfeolbgenpknfaaGreat
open Go.RowKit Go.Shelf

attribute [local go_sem] Oper.semAt_some

set_option maxHeartbeats 1000000 in
/-- windows(r, text): both are boxed; the function value captures the boxes. -/
theorem windows_in (m : Nat) (pr : Addr) (t : ByteArray) (w : World) :
    CallsIn Fence.wide m Tryz.prog 36 #[.pointer (some pr), .string t] w fun e w' => e = .returned (.func (.func 68) #[] #[.pointer (some ⟨w.heap.size, 0, none⟩), .pointer (some ⟨w.heap.size + 1, 0, none⟩)]) ∧ w' = (w.alloc (.cells #[.pointer (some pr)] 57)).alloc (.cells #[.string t] 9) := by
  refine callsIn_of_wp Tryz.func36 rfl trivial ?_ rfl
  simp only [Tryz.ntmps36, List.size_toArray, List.length_cons, List.length_nil, Nat.reduceAdd, Nat.reduceSub, Array.replicate_succ, Array.replicate_zero, List.push_toArray, List.append_toArray, List.nil_append, List.cons_append]
  gi_wp2
  go_ret
  exact ⟨rfl, rfl⟩
theorem slice_piece (t : ByteArray) (a q : Nat) (h : a ≤ q) (hq : q ≤ t.size) (w : World) : (Instr.slice 9 (.string t) (some (.int .i64 (a : Int))) (some (.int .i64 (q : Int))) none).run Tryz.prog w = .ok (.string (t.extract a q)) w := by
  have h1 : (0 : Int) ≤ (a : Int) := by omega
  have h2 : (a : Int) ≤ (q : Int) := by omega
  have h3 : (q : Int) ≤ (t.size : Int) := by omega
  go_simp
theorem grown_of_below' {w w' : World} {row : Option Nat} (h : Below w.heap.size w w') : w.grownBy w' row := ⟨h.os, h.tape, h.output, h.size, fun k hk _ => h.block k hk⟩
/-- A window's value. -/
def winV (x : Nat × Nat × Nat) : Value := .agg #[.int .i64 (x.1 : Int), .int .i64 (x.2.1 : Int), .int .i64 (x.2.2 : Int)]
set_option maxRecDepth 100000 in
set_option maxHeartbeats 4000000 in
theorem windows1_in (m l b2 b3 B pr br pk : Nat) (sa : Option Addr) (n cap sk lo : Nat) (f : Nat → Cel) (t : ByteArray) (hn : n ≤ 60) (J Jx : List ((Nat × Nat × Nat) × Bool) → World → Prop) (W : World) (hJ : Lets (fun r => r = br) (fun V => Ready V br sa n cap sk lo f) J) (hm : 4 ≤ m) (hn1 : 1 ≤ n) (hsz : ∀ i, i < n → (f i).c.size ≤ 256) (ht : t.size ≤ 8000)
    (hY : ∀ pre x V, J pre V → pre.length < 8001 → YieldAt Fence.wide (m - 1) Tryz.prog l #[.agg #[.int .i64 (x.1.1 : Int), .int .i64 (x.1.2.1 : Int), .int .i64 (x.1.2.2 : Int)], .bool x.2] V fun e V' =>
      (e = .returned (.bool true) ∧ J (pre ++ [x]) V' ∧ KeptEx (fun k => k = pk) V V' B) ∨ (e = .returned (.bool false) ∧ Jx (pre ++ [x]) V'))
    (h2 : W.cell? ⟨b2, 0, none⟩ = some (.pointer (some ⟨pr, 0, none⟩))) (h3 : W.cell? ⟨b3, 0, none⟩ = some (.string t)) (hb2 : b2 < B ∧ ¬ (b2 = br ∨ b2 = pk)) (hb3 : b3 < B ∧ ¬ (b3 = br ∨ b3 = pk)) (hpr : pr < B ∧ pr < pk) (hB : B ≤ W.heap.size) (hR : BackAt W pr br sa n cap sk lo f) (h0 : J [] W) :
    CallsIn Fence.wide m Tryz.prog 68 #[.func (.yield l) #[] #[], .pointer (some ⟨b2, 0, none⟩), .pointer (some ⟨b3, 0, none⟩)] W fun e W' => (∃ v, e = .returned v) ∧
      ((∃ ys, (∃ k, LastW n f t hn k ∧ ys = uptoW n f t hn k) ∧ J ys W') ∨ (∃ pre, True ∧ Jx pre W')) := by
  have HY : Hid (∀ pre x V, J pre V → pre.length < 8001 → YieldAt Fence.wide (m - 1) Tryz.prog l #[.agg #[.int .i64 (x.1.1 : Int), .int .i64 (x.1.2.1 : Int), .int .i64 (x.1.2.2 : Int)], .bool x.2] V fun e V' =>
      (e = .returned (.bool true) ∧ J (pre ++ [x]) V' ∧ KeptEx (fun k => k = pk) V V' B) ∨ (e = .returned (.bool false) ∧ Jx (pre ++ [x]) V')) := hY
  have HJ : Hid (Lets (fun r => r = br) (fun V => Ready V br sa n cap sk lo f) J) := hJ
  have HR : Hid (BackAt W pr br sa n cap sk lo f) := hR
  have H2 : Hid (W.cell? ⟨b2, 0, none⟩ = some (.pointer (some ⟨pr, 0, none⟩))) := h2
  have H3 : Hid (W.cell? ⟨b3, 0, none⟩ = some (.string t)) := h3
  have HBB : Hid ((b2 < B ∧ ¬ (b2 = br ∨ b2 = pk)) ∧ (b3 < B ∧ ¬ (b3 = br ∨ b3 = pk)) ∧ pr < B ∧ B ≤ W.heap.size ∧ br < pr ∧ pr < pk) := ⟨hb2, hb3, hpr.1, hB, hR.ne, hpr.2⟩
  have HEX : Hid (¬ (pr = br ∨ pr = pk) ∧ ∀ b, b < br → ¬ (b = br ∨ b = pk)) := ⟨by have := hR.ne; omega, fun b hb => by have := hR.ne; omega⟩
  have HL : Hid (∀ (u : ByteArray), u.size ≤ 8000 → ∀ V, pr < V.heap.size → BackAt V pr br sa n cap sk lo f → Calls Tryz.prog 54 #[.pointer (some ⟨pr, 0, none⟩), .string u] V fun e V' => (∃ (lk bd : Nat) (fc : Bool), e = .returned (.agg #[.int .i64 (lk : Int), .int .i64 (bd : Int), .bool fc]) ∧ LookP n f u lk bd fc) ∧ V.grownBy V' (some br) ∧ Ready V' br sa n cap sk lo f) := fun u hu V hV hBV => callsIn_wide.1 (look_in 3 (Nat.le_refl _) pr br sa n cap sk lo f u V hn hsz hu hBV hV)
  have J0 : Hid (J (uptoW n f t hn 0) W) := h0
  have p0 := hR.p0
  have q0 := hR.ready.c0
  clear hJ hY hR h0 hsz hb2 hb3 hpr hB
  refine callsIn_of_wp Tryz.func68 rfl trivial ?_ rfl
  simp only [Tryz.ntmps68, List.size_toArray, List.length_cons, List.length_nil, Nat.reduceAdd, Nat.reduceSub, Array.replicate_succ, Array.replicate_zero, List.push_toArray, List.append_toArray, List.nil_append, List.cons_append]
  gi_wp2
  clear p0 q0 h2 h3
  gi_loopw [5, 6, 7] (fun av _ _ wr => ∃ k : Nat, av = .int .i64 ((posW n f t hn k : Nat) : Int) ∧ (∀ i, i < k → posW n f t hn i + n ≤ t.size) ∧ J (uptoW n f t hn k) wr ∧ KeptEx (fun k => k = br ∨ k = pk) W wr B ∧ Ready wr br sa n cap sk lo f) (fun av _ _ _ => t.size + 1 - (intOf av).toNat)
  case atStart => exact ⟨0, rfl, fun i hi => absurd hi (Nat.not_lt_zero _), J0.out, KeptEx.refl _ _ _, HR.out.ready⟩
  case round =>
    obtain ⟨k, rfl, hall, hJs, hkept, hready⟩ := hrel
    have JS : Hid (J (uptoW n f t hn k) wr) := hJs
    have HK : Hid (KeptEx (fun k => k = br ∨ k = pk) W wr B) := hkept
    have HRD : Hid (Ready wr br sa n cap sk lo f) := hready
    have HA : Hid (∀ i, i < k → posW n f t hn i + n ≤ t.size) := hall
    have c2 : wr.cell? ⟨b2, 0, none⟩ = some (.pointer (some ⟨pr, 0, none⟩)) := by rw [hkept.cell HBB.out.1.1 HBB.out.1.2]; exact H2.out
    have c3 : wr.cell? ⟨b3, 0, none⟩ = some (.string t) := by rw [hkept.cell HBB.out.2.1.1 HBB.out.2.1.2]; exact H3.out
    have BA := HR.out.later hkept hready HBB.out.2.2.1 HEX.out
    have HBA : Hid (BackAt wr pr br sa n cap sk lo f) := BA
    obtain ⟨a, ha⟩ : ∃ a, posW n f t hn k = a := ⟨_, rfl⟩
    have HPA : Hid (posW n f t hn k = a) := ha
    rw [ha]
    have hka : k ≤ a := by rw [← ha]; exact posW_ge hn1 k
    have hat : a ≤ t.size := by rw [← ha]; exact posW_le hall
    clear hJs hkept hready hall BA ha
    obtain ⟨q, hq⟩ : ∃ q, a + n = q := ⟨_, rfl⟩
    have HQ : Hid (a + n = q) := hq
    have hqi : (a : Int) + (n : Int) = (q : Int) := by omega
    have ha0 : (0 : Int) ≤ (a : Int) := by omega
    have hwq : IntKind.i64.wrap (q : Int) = (q : Int) := by rw [IntKind.wrap_i64] <;> omega
    by_cases hql : q ≤ t.size
    · have hqt : (q : Int) ≤ (t.size : Int) := by omega
      have hsl := slice_piece t a q (by omega) hql
      clear hq
      gi_wp2
      refine wpIn_wide.2 ?_
      have hzs : (t.extract a q).size ≤ 8000 := by rw [cut_size hql]; omega
      have hbr := HBB.out
      have hdl : wr.heap.size ≤ wr.drew.heap.size := Nat.le_refl _
      have hwl : br < wr.heap.size := HRD.out.cells.2.2
      have hprl : pr < wr.heap.size := Nat.lt_of_lt_of_le HBB.out.2.2.1 (Nat.le_trans HBB.out.2.2.2.1 HK.out.size)
      have k0 : Below wr.heap.size wr wr.drew := (Below.refl wr.heap.size wr).drew
      have k1 : Below wr.heap.size wr (wr.alloc (.cells #[.int .i64 0, .int .i64 0, .bool false] 79)).drew := ((Below.refl wr.heap.size wr).alloc (Nat.le_refl _) _).drew
      have BD0 : BackAt wr.drew pr br sa n cap sk lo f := HBA.out.later (ex := fun _ => False) (KeptEx.below k0) (HRD.out.kept k0 hwl) hprl ⟨id, fun _ _ => id⟩
      have BD1 : BackAt (wr.alloc (.cells #[.int .i64 0, .int .i64 0, .bool false] 79)).drew pr br sa n cap sk lo f := HBA.out.later (ex := fun _ => False) (KeptEx.below k1) (HRD.out.kept k1 hwl) hprl ⟨id, fun _ _ => id⟩
      have L0 : pr < wr.drew.heap.size := hprl
      have L1 : pr < (wr.alloc (.cells #[.int .i64 0, .int .i64 0, .bool false] 79)).drew.heap.size := Nat.lt_of_lt_of_le hprl k1.size
      have HG : Hid (∀ V U, Below wr.heap.size wr V → V.grownBy U (some br) → wr.grownBy U (some br)) := fun V U h1 h2 => (grown_of_below' h1).trans h2
      have HS6 : Hid (∀ U, (wr.alloc (.cells #[.int .i64 0, .int .i64 0, .bool false] 79)).drew.grownBy U (some br) → SightAt U wr.heap.size 0 0 false) := fun U hU => (sight_new wr 0 0 false 79).sameB hU.size (hU.block _ (by show _ < (wr.alloc _).heap.size; simp) (fun e => by injection e with e; omega))
      have HBD : Hid (BackAt wr.drew pr br sa n cap sk lo f ∧ BackAt (wr.alloc (.cells #[.int .i64 0, .int .i64 0, .bool false] 79)).drew pr br sa n cap sk lo f ∧ pr < wr.drew.heap.size ∧ pr < (wr.alloc (.cells #[.int .i64 0, .int .i64 0, .bool false] 79)).drew.heap.size ∧ Below wr.heap.size wr wr.drew ∧ Below wr.heap.size wr (wr.alloc (.cells #[.int .i64 0, .int .i64 0, .bool false] 79)).drew) := ⟨BD0, BD1, L0, L1, k0, k1⟩
      clear BD0 BD1 L0 L1 k0 k1 hdl hbr
      have n2 := World.new_ne wr _ c2
      have n3 := World.new_ne wr _ c3
      go_region_held3 (fun V => V.cell? ⟨b2, 0, none⟩ = some (.pointer (some ⟨pr, 0, none⟩)) ∧ V.cell? ⟨b3, 0, none⟩ = some (.string t)) (go_keep) (first | (go_at_call 54; (with_reducible refine (HL.out (t.extract a q) hzs _ (by first | exact HBD.out.2.2.1 | exact HBD.out.2.2.2.1) (by first | exact HBD.out.1 | exact HBD.out.2.1)).mono ?_); rintro e w1 ⟨⟨lk, bd, fc, rfl, hlk⟩, hg, hrd⟩; have E1 : Hid (wr.grownBy w1 (some br) ∧ Ready w1 br sa n cap sk lo f ∧ LookP n f (t.extract a q) lk bd fc) := ⟨(by first | exact HG.out _ _ HBD.out.2.2.2.2.1 hg | exact HG.out _ _ HBD.out.2.2.2.2.2 hg), hrd, hlk⟩; (try have s6 := HS6.out w1 hg); (try have z0 := s6.c0); (try have z1 := s6.c1); (try have z2 := s6.c2); (try have y0 := s6.f 0); (try have y1 := s6.f 1); (try have y2 := s6.f 2); (try have yl := s6.lt); have d2 : w1.cell? ⟨b2, 0, none⟩ = some (.pointer (some ⟨pr, 0, none⟩)) := (by rw [(KeptEx.grown (B := B) (ex := fun k => k = br ∨ k = pk) E1.out.1 (Nat.le_trans HBB.out.2.2.2.1 HK.out.size) (Or.inl rfl)).cell HBB.out.1.1 HBB.out.1.2, HK.out.cell HBB.out.1.1 HBB.out.1.2]; exact H2.out); have d3 : w1.cell? ⟨b3, 0, none⟩ = some (.string t) := (by rw [(KeptEx.grown (B := B) (ex := fun k => k = br ∨ k = pk) E1.out.1 (Nat.le_trans HBB.out.2.2.2.1 HK.out.size) (Or.inl rfl)).cell HBB.out.2.1.1 HBB.out.2.1.2, HK.out.cell HBB.out.2.1.1 HBB.out.2.1.2]; exact H3.out); have m2 := World.new_ne w1 _ d2; have m3 := World.new_ne w1 _ d3; clear hg hrd hlk))
      all_goals
        have FIN : ∀ (U : World), wr.grownBy U (some br) → Ready U br sa n cap sk lo f → J (uptoW n f t hn k) U ∧ KeptEx (fun k => k = br ∨ k = pk) W U B ∧ Ready U br sa n cap sk lo f := fun U hg hr => ⟨HJ.out _ _ _ _ JS.out hg (fun r e => by injection e with e; exact e.symm) hr, HK.out.trans (KeptEx.grown hg (Nat.le_trans HBB.out.2.2.2.1 HK.out.size) (Or.inl rfl)), hr⟩
        have HE1 := E1.out
        first
          | (obtain ⟨U, hU, hsight, hgU, hrU⟩ : ∃ U : World, ((w1.setCell ⟨wr.heap.size, 0, none⟩ (.int .i64 (lk : Int))).setCell ⟨wr.heap.size, 1, none⟩ (.int .i64 (bd : Int))).setCell ⟨wr.heap.size, 2, none⟩ (.bool fc) = U ∧ SightAt U wr.heap.size lk bd fc ∧ wr.grownBy U (some br) ∧ Ready U br sa n cap sk lo f := ⟨_, rfl, ((s6.set0 lk).set1 bd).set2 fc, ⟨HE1.1.os, HE1.1.tape, HE1.1.output, by simp [World.setCell]; exact HE1.1.size, fun i hi hne => ((((kept_set (B := wr.heap.size)).trans kept_set).trans kept_set).block i hi (by omega)).trans (HE1.1.block i hi hne)⟩, HE1.2.1.keptEx (((kept_set (B := wr.heap.size)).trans kept_set).trans kept_set) hwl (by omega)⟩
             rw [hU]
             obtain ⟨p6, hp6⟩ : ∃ p6, wr.heap.size = p6 := ⟨_, rfl⟩
             rw [hp6] at hsight ⊢)
          | (obtain ⟨U, hU, hsight, hgU, hrU⟩ : ∃ U : World, w1.alloc (.cells #[.int .i64 (lk : Int), .int .i64 (bd : Int), .bool fc] 79) = U ∧ SightAt U w1.heap.size lk bd fc ∧ wr.grownBy U (some br) ∧ Ready U br sa n cap sk lo f := ⟨_, rfl, sight_new w1 lk bd fc _, HE1.1.trans (World.grownBy_alloc w1 _ _), HE1.2.1.kept ((Below.refl w1.heap.size w1).alloc (Nat.le_refl _) _) HE1.2.1.cells.2.2⟩
             rw [hU]
             obtain ⟨p6, hp6⟩ : ∃ p6, w1.heap.size = p6 := ⟨_, rfl⟩
             rw [hp6] at hsight ⊢)
        have HU6 : Hid (J (uptoW n f t hn k) U ∧ KeptEx (fun k => k = br ∨ k = pk) W U B ∧ Ready U br sa n cap sk lo f) := FIN U hgU hrU
        have HLK : Hid (LookP n f (t.extract a q) lk bd fc) := HE1.2.2
        have t0 := hsight.c0
        have t1 := hsight.c1
        have t2 := hsight.c2
        clear hU hp6 hsight hgU hrU HE1 FIN E1
        clear d2 d3
        have hbdn : bd < n := by
          rcases HLK.out.bd.1 with h9 | h9
          · omega
          · exact h9.1
        obtain ⟨sft, hs⟩ : ∃ sft, n - bd = sft := ⟨_, rfl⟩
        have hsi : (n : Int) - (bd : Int) = (sft : Int) := by omega
        have hs1 : 1 ≤ sft := by omega
        have hs2 : sft ≤ 60 := by omega
        have HWIN : Hid (winW n f t hn k = ((a, lk, sft), fc) ∧ posW n f t hn (k + 1) = a + sft) := by
          have hpc : pieceT n t a = t.extract a q := by unfold pieceT; rw [HQ.out]
          obtain ⟨e1, e2, e3⟩ := look_one (lookN f (t.extract a q) hn) HLK.out
          refine ⟨?_, ?_⟩
          · unfold winW
            rw [HPA.out, hpc, e1, e2, e3, hs]
          · show posW n f t hn k + (n - bdN n f (pieceT n t (posW n f t hn k)) hn) = _
            rw [HPA.out, hpc, e2, hs]
        clear hs
        have hlen : (uptoW n f t hn k).length < 8001 := by rw [uptoW_len]; omega
        obtain ⟨fn, tmps, assign, body, hyl2, hRd⟩ := HY.out (uptoW n f t hn k) ((a, lk, sft), fc) U HU6.out.1 hlen
        have HRR : Hid (RoundIn Fence.wide (m - 1) Tryz.prog l fn tmps assign body U fun e V' =>
          (e = .returned (.bool true) ∧ J (uptoW n f t hn k ++ [((a, lk, sft), fc)]) V' ∧ KeptEx (fun k => k = pk) U V' B) ∨ (e = .returned (.bool false) ∧ Jx (uptoW n f t hn k ++ [((a, lk, sft), fc)]) V')) := hRd
        clear hRd hlen
        dsimp only at hyl2
        have hm1 : 1 ≤ m := by omega
        gi_wp2
        refine HRR.out.mono ?_
        rintro e V (⟨rfl, hJ3, hk3⟩ | ⟨rfl, hJx3⟩)
        · have J3 : Hid (J (uptoW n f t hn (k + 1)) V ∧ KeptEx (fun k => k = br ∨ k = pk) W V B ∧ Ready V br sa n cap sk lo f) := ⟨by rw [uptoW_succ, HWIN.out.1]; exact hJ3, HU6.out.2.1.trans (hk3.mono (fun k e => Or.inr e)), HU6.out.2.2.keptEx hk3 (by have := HBB.out; omega) (by have := HBB.out; omega)⟩
          clear hJ3 hk3 hyl2
          gi_wp2
          go_roundw
          case rel => exact ⟨k + 1, by rw [HWIN.out.2]; go_num, fun i hi => by
            by_cases e : i = k
            · rw [e, HPA.out, HQ.out]; exact hql
            · exact HA.out i (by omega), J3.out.1, J3.out.2.1, J3.out.2.2⟩
          case measure => have := HQ.out; simp [intOf]; omega
        · have J3 : Hid (Jx (uptoW n f t hn k ++ [((a, lk, sft), fc)]) V) := hJx3
          clear hJx3 hyl2
          gi_wp2
          refine bodyPost_ret (results_none rfl _ _ _) rfl ?_
          first | exact ⟨⟨_, rfl⟩, .inr ⟨_, trivial, J3.out⟩⟩ | exact ⟨⟨_, rfl⟩, .inr ⟨_, J3.out⟩⟩
    · have hqt : ¬ (q : Int) ≤ (t.size : Int) := by omega
      have HLAST : Hid (LastW n f t hn k) := ⟨HA.out, by rw [HPA.out, HQ.out]; exact hql⟩
      clear hq
      gi_wp2
      go_end0
      first | exact ⟨⟨_, rfl⟩, .inl ⟨_, ⟨k, HLAST.out, rfl⟩, JS.out⟩⟩ | exact ⟨⟨_, rfl⟩, .inl ⟨k, HLAST.out, JS.out⟩⟩
/-- windows' contract. -/
theorem windows_turns (m b2 b3 B pr br pk : Nat) (sa : Option Addr) (n cap sk lo : Nat) (f : Nat → Cel) (t : ByteArray) (hn : n ≤ 60) (w : World) (hm : 4 ≤ m) (hn1 : 1 ≤ n) (hsz : ∀ i, i < n → (f i).c.size ≤ 256) (ht : t.size ≤ 8000)
    (h2 : w.cell? ⟨b2, 0, none⟩ = some (.pointer (some ⟨pr, 0, none⟩))) (h3 : w.cell? ⟨b3, 0, none⟩ = some (.string t)) (hb2 : b2 < B ∧ ¬ (b2 = br ∨ b2 = pk)) (hb3 : b3 < B ∧ ¬ (b3 = br ∨ b3 = pk)) (hpr : pr < B ∧ pr < pk) (hB : B ≤ w.heap.size) (hR : BackAt w pr br sa n cap sk lo f) :
    SeqTurns Fence.wide m Tryz.prog 68 #[.pointer (some ⟨b2, 0, none⟩), .pointer (some ⟨b3, 0, none⟩)] (fun x : (Nat × Nat × Nat) × Bool => #[Value.agg #[.int .i64 (x.1.1 : Int), .int .i64 (x.1.2.1 : Int), .int .i64 (x.1.2.2 : Int)], .bool x.2]) (fun V V' => KeptEx (fun k => k = pk) V V' B) (fun r => r = br) (fun V => Ready V br sa n cap sk lo f) (fun ys => ∃ k, LastW n f t hn k ∧ ys = uptoW n f t hn k) (fun _ => True) 8001 w := fun l J Jx W hW hJ _ hY h0 => by
  have hk : KeptEx (fun k => k = br ∨ k = pk) w W B := KeptEx.below (hW.mono hB)
  have hne := hR.ne
  exact windows1_in m l b2 b3 B pr br pk sa n cap sk lo f t hn J Jx W hJ hm hn1 hsz ht hY (by rw [hk.cell hb2.1 hb2.2]; exact h2) (by rw [hk.cell hb3.1 hb3.2]; exact h3) hb2 hb3 hpr (Nat.le_trans hB hW.size) (hR.later hk (hR.ready.kept (hW.mono hB) (by omega)) hpr.1 ⟨by omega, fun b hb => by omega⟩) h0
end Go.Proofs.YtfeolbgenpknfaaGreat
