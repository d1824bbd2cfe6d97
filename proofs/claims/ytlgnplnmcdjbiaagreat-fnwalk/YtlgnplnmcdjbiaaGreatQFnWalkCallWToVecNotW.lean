/- What is said here: what FnWalk calls, at drawn inputs: the program and the specification answer with the same, whatever the world behind; a step, taken apart, is the step.
   What is proved here: the specification's l02Not hands back the words turned, in new memory; nothing that was there turns. -/
import Derived.Test.YtlgnplnmcdjbiaaGreatQFnWalkMToCtzM
import Derived.Test.YtlgnplnmcdjbiaaGreatQFnVecMToBytesRowW
import Derived.Test.YtlgnplnmcdjbiaaGreatQDrawKFitWToOnceG
import Derived.Test.YtlgnplnmcdjbiaaGreatQImplSOnW
import Derived.Test.YtlgnplnmcdjbiaaGreatQSpecCloVWToIntRowW
import Derived.Test.YtlgnplnmcdjbiaaGreatQImplRunWToIntsNeW
import Derived.Test.YtlgnplnmcdjbiaaGreatQSpecRunWToBoolMakeW
import Derived.Test.YtlgnplnmcdjbiaaGreatQSpecEndsWToEndsOfW
import Derived.Test.YtlgnplnmcdjbiaaGreatQAtomSToSpecPRightW
import Derived.Test.YtlgnplnmcdjbiaaGreatQSpecKOfW
import Derived.Test.YtlgnplnmcdjbiaaGreatQSpecFitKW
import Derived.Test.YtlgnplnmcdjbiaaGreatQMaskDToSpecMaskW
import Derived.Test.YtlgnplnmcdjbiaaGreatQMasksAtWToSpecAndW
import Derived.Test.YtlgnplnmcdjbiaaGreatQImplMaskWToSkipExM
import Derived.Test.YtlgnplnmcdjbiaaGreatQSpecOrWToSpecKLoopW
import Derived.Test.YtlgnplnmcdjbiaaGreatQFnSubWToSpecGetW
import Derived.Test.YtlgnplnmcdjbiaaGreatQSpecStartWToVecAddW
namespace Go.Proofs.YtlgnplnmcdjbiaaGreat
open Go.RowKit

theorem len256W {k : Nat} (h : k ≤ 256) : k ≤ maxLen := by unfold maxLen; omega
theorem len60W {k : Nat} (h : k ≤ 60) : k ≤ maxLen := by unfold maxLen; omega
/-- A bit of a vector's word. -/
theorem getB_bit {f : Nat → Int} {P : Nat → Bool} {m k q : Nat} (h : VecIs f P m) (hk : k < m) (hq : q < 32) : getB (f k) q = P (32 * k + q) := by
  obtain ⟨a, e, h1, h2⟩ := h k hk
  unfold getB
  rw [e, ← h2 q hq, show ((a : Nat) : Int) / 2 ^ q = ((a / 2 ^ q : Nat) : Int) by push_cast; rfl, show (1 : Int) = ((1 : Nat) : Int) from rfl, (bits_nat .i64 32 (by decide) wraps_i64w (a / 2 ^ q) 1 (Nat.lt_of_le_of_lt (Nat.div_le_self _ _) h1) (by decide)).1, Nat.and_one_is_mod, Nat.testBit_eq_decide_div_mod_eq]
  by_cases h3 : a / 2 ^ q % 2 = 1
  · rw [h3]
    rfl
  · rw [decide_eq_false h3, show a / 2 ^ q % 2 = 0 by omega]
    rfl
/-- The cells of a right pattern are right. -/
theorem cells_rightW {n : Nat} {f : Nat → Atm} (hP : PatRight n f) : CellsOk (cellsP (atomsL f n)).length (fun i => (cellsP (atomsL f n)).getD i cel0) := by
  have h40 := pat_len hP
  have hs := sum_len n hP.2.2.1
  have h1 := sumTo_mono (k := 1) (n := n) hP.1 hP.2.2.1
  have h2 := (counted_bd (hP.2.2.1 0 hP.1)).1
  have h3 : sumTo (fun i => counted (f i)) 1 = 0 + counted (f 0) := rfl
  refine ⟨by omega, by omega, fun i hi => ?_⟩
  have hz : (cellsP (atomsL f n)).getD i cel0 ∈ cellsP (atomsL f n) := getD_mem hi
  show CellOk ((cellsP (atomsL f n)).getD i cel0)
  generalize (cellsP (atomsL f n)).getD i cel0 = z at hz ⊢
  obtain ⟨a, ha, hc2⟩ := List.mem_flatMap.1 hz
  obtain ⟨j, hj, rfl⟩ := atomsL_mem ha
  unfold cellsA at hc2
  obtain ⟨r, _, rfl⟩ := List.mem_map.1 hc2
  exact ⟨(hP.2.2.1 j hj).1, (hP.2.2.1 j hj).2.1⟩
/-- What is called to take a step apart, and what it answers. -/
structure WalkAll (s : Option Addr) (n cp : Nat) (f : Nat → Cel) (bv : Int) (sv : Option Addr) (m cv : Nat) (g : Nat → Int) (x : Int) (rf : Nat → Int) (t : Bool) (F : Nat → Nat → Int) (u y a l d o p q : Nat → Int) : Prop where
  few : bv ≤ 61
  masks : ∀ W, CRow W W.heap.size s n f → Calls Tryz.prog 17 #[.slice s n cp] W fun e w' => NewMasks W bv m F e w'
  up : ∀ W, Row W W.heap.size sv m g → Calls Tryz.prog 20 #[.agg #[.int .i64 bv, .slice sv m cv]] W fun e w' => NewVec W bv m u e w'
  byte : ∀ W, CRow W W.heap.size s n f → Calls Tryz.prog 21 #[.slice s n cp, .int .i64 x] W fun e w' => NewVec W bv m y e w'
  and1 : ∀ (W : World) (z z' : Option Addr) (k k' : Nat), Row W W.heap.size z m u → Row W W.heap.size z' m y → Calls Tryz.prog 19 #[.agg #[.int .i64 bv, .slice z m k], .agg #[.int .i64 bv, .slice z' m k']] W fun e w' => NewVec W bv m a e w'
  loop : ∀ W, CRow W W.heap.size s n f → Calls Tryz.prog 22 #[.slice s n cp, .int .i64 x] W fun e w' => NewVec W bv m l e w'
  and2 : ∀ (W : World) (z' : Option Addr) (k' : Nat), Row W W.heap.size sv m g → Row W W.heap.size z' m l → Calls Tryz.prog 19 #[.agg #[.int .i64 bv, .slice sv m cv], .agg #[.int .i64 bv, .slice z' m k']] W fun e w' => NewVec W bv m d e w'
  or1 : ∀ (W : World) (z z' : Option Addr) (k k' : Nat), Row W W.heap.size z m a → Row W W.heap.size z' m d → Calls Tryz.prog 18 #[.agg #[.int .i64 bv, .slice z m k], .agg #[.int .i64 bv, .slice z' m k']] W fun e w' => NewVec W bv m o e w'
  close1 : ∀ (W : World) (z : Nat → Option Addr) (k : Nat → Nat) (z' : Option Addr) (k' : Nat), (∀ i, i < 5 → Row W W.heap.size (z i) m (F i)) → Row W W.heap.size z' m o → Calls Tryz.prog 23 #[masksV bv z m k, .agg #[.int .i64 bv, .slice z' m k']] W fun e w' => NewVec W bv m p e w'
  or2 : ∀ (W : World) (z z' : Option Addr) (k k' : Nat), Row W W.heap.size z m p → Row W W.heap.size z' m (F 0) → Calls Tryz.prog 18 #[.agg #[.int .i64 bv, .slice z m k], .agg #[.int .i64 bv, .slice z' m k']] W fun e w' => NewVec W bv m q e w'
  close2 : ∀ (W : World) (z : Nat → Option Addr) (k : Nat → Nat) (z' : Option Addr) (k' : Nat), (∀ i, i < 5 → Row W W.heap.size (z i) m (F i)) → Row W W.heap.size z' m q → Calls Tryz.prog 23 #[masksV bv z m k, .agg #[.int .i64 bv, .slice z' m k']] W fun e w' => NewVec W bv m rf e w'
  get : ∀ (W : World) (z : Option Addr) (k : Nat), Row W W.heap.size z m p → Calls Tryz.prog 25 #[.agg #[.int .i64 bv, .slice z m k], .int .i64 (bv - 1)] W fun e w' => e = .returned (.bool t) ∧ Below W.heap.size W w'
theorem walk_all (s : Option Addr) (n cp : Nat) (f : Nat → Cel) (sv : Option Addr) (m cv c x : Nat) (g : Nat → Int) (hsm : ∀ i, i < n → (f i).c.size ≤ 256) (hk : CellsOk n f) (hm : m = (n + 1 + 31) / 32) (hR : Right ((n : Int) + 1) m g) (hc9 : c < 256) (hx : IsBits x (fun j => stepB f n (bitsOf g n) c j || startB f n j)) :
    ∃ (F : Nat → Nat → Int) (u y a l d o p q : Nat → Int), WalkAll s n cp f ((n : Int) + 1) sv m cv g (c : Int) (wordsN x) (stepB f n (bitsOf g n) c n) F u y a l d o p q := by
  have hn60 := hk.2.1
  have hn : n ≤ maxLen := len60W hn60
  have hc : ∀ i, i < n → (f i).c.size ≤ maxLen := fun i hi => len256W (hsm i hi)
  have hg := vecIs_right hm hR
  have hgn := bitsOf_le g n
  have hS := skip_le f n
  have hS0 : skipB f n 0 = false := skip_zero f n
  have hm5 : m ≤ 1048576 := by omega
  obtain ⟨xb, hb⟩ := first_ex f hn60
  obtain ⟨xe, he⟩ := last_ex f hn60
  obtain ⟨sk, hsk⟩ := skip_ex f hn60
  obtain ⟨xy, hy⟩ : ∃ z, IsBits z (behind (asksB f c false) n) := ⟨_, bits_valB (fun j hj => behind_le _ n j (by omega))⟩
  obtain ⟨xl, hl⟩ : ∃ z, IsBits z (behind (asksB f c true) n) := ⟨_, bits_valB (fun j hj => behind_le _ n j (by omega))⟩
  obtain ⟨xp, hp⟩ : ∃ z, IsBits z (stepB f n (bitsOf g n) c) := ⟨_, bits_valB (fun j hj => step_le f n _ _ j (by omega))⟩
  have e0 : IsBits 1 (fun j => decide (0 = j)) := bits_pow (k := 0) (by omega)
  have e1 : IsBits (2 ^ n) (fun j => decide (n = j)) := bits_pow (by omega)
  have hF : ∀ i, i < 5 → Right ((n : Int) + 1) m (masksF n xb xe sk i) := fun i hi => by
    have hcs : i = 0 ∨ i = 1 ∨ i = 2 ∨ i = 3 ∨ i = 4 := by omega
    rcases hcs with rfl | rfl | rfl | rfl | rfl
    · exact right_of_vecIs (by omega) hm (vecIs_words e0 m) (fun j hj => decide_eq_false (by omega))
    · exact right_of_vecIs (by omega) hm (vecIs_words e1 m) (fun j hj => decide_eq_false (by omega))
    · exact right_of_vecIs (by omega) hm (vecIs_words hb m) (fun j hj => by unfold firstB; rw [hS (j + 1) (by omega)]; rfl)
    · exact right_of_vecIs (by omega) hm (vecIs_words he m) (fun j hj => by unfold lastB; rw [hS j hj]; rfl)
    · exact right_of_vecIs (by omega) hm (vecIs_words hsk m) hS
  have vu := hg.up hm
  obtain ⟨u, eu⟩ : ∃ u, u = cutF ((n : Int) + 1) m (sumF 0 g g) := ⟨_, rfl⟩
  rw [← eu] at vu
  have vy := vecIs_words hy m
  have vl := vecIs_words hl m
  have vp := vecIs_words hp m
  have va := vu.and vy
  have vd := hg.and vl
  have vo := (va.or vd).congr (raw_pass f n (bitsOf g n) c)
  have hpass : ∀ j, n < j → passB f n (bitsOf g n) c j = false := fun j hj => by unfold passB; rw [behind_le _ n j hj]; rfl
  have hstep : ∀ j, n < j → stepB f n (bitsOf g n) c j = false := step_le f n _ _
  have vq := vp.or (vecIs_words e0 m)
  have hqn : ∀ j, n < j → (stepB f n (bitsOf g n) c j || decide (0 = j)) = false := fun j hj => by rw [hstep j hj, decide_eq_false (by omega)]; rfl
  have Ru := right_of_vecIs (by omega) hm vu (fun j hj => by rw [decide_eq_false (by omega)]; rfl)
  have Ry := right_of_vecIs (by omega) hm vy (behind_le _ n)
  have Rl := right_of_vecIs (by omega) hm vl (behind_le _ n)
  have Ra := right_of_vecIs (by omega) hm va (fun j hj => by rw [behind_le _ n j hj, Bool.and_false])
  have Rd := right_of_vecIs (by omega) hm vd (fun j hj => by rw [behind_le _ n j hj, Bool.and_false])
  have Ro := right_of_vecIs (by omega) hm vo hpass
  have Rp := right_of_vecIs (by omega) hm vp hstep
  have Rq := right_of_vecIs (by omega) hm vq hqn
  refine ⟨masksF n xb xe sk, u, wordsN xy, fun i => bits .and .i64 (u i) (wordsN xy i), wordsN xl, fun i => bits .and .i64 (g i) (wordsN xl i), fun i => bits .or .i64 (bits .and .i64 (u i) (wordsN xy i)) (bits .and .i64 (g i) (wordsN xl i)), wordsN xp, fun i => bits .or .i64 (wordsN xp i) (wordsN 1 i), by omega, ?_, ?_, ?_, ?_, ?_, ?_, ?_, ?_, ?_, ?_, ?_⟩
  · exact fun W hr => specMasks_yes s n cp m f _ W hn hr hc hk (fun W' hy' => (l06Masks_any s n cp m f W' hk.1 hn60 hy' hm).mono (fun _ _ h9 => masksAt_new hn60 h9 hb he hsk))
  · rw [eu]
    exact fun W hv => specVecUp_yes _ sv m cv g W hm5 hv hR
  · exact fun W hr => specByte_yes s n cp c m xy f W hn hr hc hk hc9 hm hy
  · exact fun W z z' k k' h1 h2 => specVecAnd_yes _ z z' m k k' _ _ W hm5 h1 h2 Ru Ry
  · exact fun W hr => specLoop_yes s n cp c m xl f W hn hr hc hk hc9 hm hl
  · exact fun W z' k' h1 h2 => specVecAnd_yes _ sv z' m cv k' _ _ W hm5 h1 h2 hR Rl
  · exact fun W z z' k k' h1 h2 => specVecOr_yes _ z z' m k k' _ _ W hm5 h1 h2 Ra Rd
  · exact fun W z k z' k' h1 h2 => (implCBy_yes _ z m k (masksF n xb xe sk) z' k' _ W hm5 h1 h2 hF Ro).mono (fun e w' h9 => newVec_congr h9 ((cy_bits hn60 hm hS0 hS hpass (vecIs_words hb m) (vecIs_words he m) (vecIs_words hsk m) vo).uniq vp))
  · exact fun W z z' k k' h1 h2 => specVecOr_yes _ z z' m k k' _ _ W hm5 h1 h2 Rp (hF 0 (by decide))
  · exact fun W z k z' k' h1 h2 => (implCBy_yes _ z m k (masksF n xb xe sk) z' k' _ W hm5 h1 h2 hF Rq).mono (fun e w' h9 => newVec_congr h9 (((cy_bits hn60 hm hS0 hS hqn (vecIs_words hb m) (vecIs_words he m) (vecIs_words hsk m) vq).congr (fun j => by
      rw [cloB_or]
      show (cloB (skipB f n) (cloB (skipB f n) (passB f n (bitsOf g n) c)) j || startB f n j) = _
      rw [cloB_twice]
      rfl)).uniq (vecIs_words hx m)))
  · intro W z k h1
    refine specGet_any _ z m k _ _ _ W hm5 h1 ⟨fun h2 => ?_, fun h2 => absurd ⟨Rp, by omega, by omega⟩ h2⟩
    rw [show ((n : Int) + 1 - 1) / 32 = ((n / 32 : Nat) : Int) by omega, show ((n : Int) + 1 - 1) % 32 = ((n % 32 : Nat) : Int) by omega]
    show _ = getB (wordsN xp (n / 32)) (n % 32)
    rw [getB_bit vp (by omega) (by omega), show 32 * (n / 32) + n % 32 = n by omega]
open Classical in
theorem step_both (s : Option Addr) (n cp : Nat) (f : Nat → Cel) (bv : Int) (sv : Option Addr) (m cv : Nat) (g : Nat → Int) (x : Int) (hn : n ≤ 60) (hsm : ∀ i, i < n → (f i).c.size ≤ 256) (hm : m ≤ 1000) :
    ∃ (ro : Int) (rn : Nat) (rf : Nat → Int) (t : Bool), rn ≤ 1048576 ∧
      (∀ W, CRow W W.heap.size s n f → Row W W.heap.size sv m g → Calls Tryz.prog 5 #[.slice s n cp, .agg #[.int .i64 bv, .slice sv m cv], .int .i64 x] W fun e w' => NewStep W ro rn rf t e w') ∧
      (∀ W, CRow W W.heap.size s n f → Row W W.heap.size sv m g → Calls Tryz.prog 10 #[.slice s n cp, .agg #[.int .i64 bv, .slice sv m cv], .int .i64 x] W fun e w' => NewStep W ro rn rf t e w') ∧
      (ro = 0 ∨ (0 < ro ∧ ro = bv ∧ rn = m ∧ ∃ (F : Nat → Nat → Int) (u y a l d o p q : Nat → Int), WalkAll s n cp f bv sv m cv g x rf t F u y a l d o p q)) := by
  have hc : ∀ i, i < n → (f i).c.size ≤ maxLen := fun i hi => len256W (hsm i hi)
  by_cases h : StepP n f bv m g x
  · obtain ⟨hk, ⟨hR, rfl⟩, h0, h1⟩ := h
    have hmm : m = (n + 1 + 31) / 32 := by have := hR.2.2.1; omega
    obtain ⟨c, rfl⟩ := Int.eq_ofNat_of_zero_le h0
    have hc9 : c < 256 := by omega
    obtain ⟨z, hz⟩ : ∃ z, IsBits z (fun j => stepB f n (bitsOf g n) c j || startB f n j) := ⟨_, bits_valB (fun j hj => by rw [step_le f n _ _ j (by omega), start_le f n j (by omega)]; rfl)⟩
    exact ⟨(n : Int) + 1, m, wordsN z, _, by omega, fun W hr hv => implSOn_yes s n cp c f sv m cv z g W (len60W hn) hr hc hv hk hmm hR hc9 hz, fun W hr hv => specSOn_yes s n cp c f sv m cv z g W (len60W hn) hr hc hv hk hmm hR hc9 hz, Or.inr ⟨by omega, rfl, rfl, walk_all s n cp f sv m cv c z g hsm hk hmm hR hc9 hz⟩⟩
  · exact ⟨0, 0, fun _ => 0, false, by omega, fun W hr hv => implSOn_no s n cp f bv sv m cv g x W (len60W hn) hr hc (by omega) hv h, fun W hr hv => specSOn_no s n cp f bv sv m cv g x W (len60W hn) hr hc (by omega) hv h, Or.inl rfl⟩
open Classical in
theorem runs_both (s : Option Addr) (n cp : Nat) (f : Nat → Cel) (t : ByteArray) (hn : n ≤ 60) (hsm : ∀ i, i < n → (f i).c.size ≤ 256) (ht : t.size ≤ 20000) :
    ∃ (rn : Nat) (rf : Nat → Int), rn ≤ 1048576 ∧
      (∀ W, CRow W W.heap.size s n f → Calls Tryz.prog 7 #[.slice s n cp, .string t] W fun e w' => NewInts W rn rf e w') ∧
      (∀ W, CRow W W.heap.size s n f → Calls Tryz.prog 12 #[.slice s n cp, .string t] W fun e w' => NewInts W rn rf e w') ∧
      ∀ i, i < rn → ∃ e : Nat, e ≤ t.size ∧ rf i = (e : Int) ∧ ∃ s, s < e ∧ FitK n f (t.extract s e) := by
  have hc : ∀ i, i < n → (f i).c.size ≤ maxLen := fun i hi => len256W (hsm i hi)
  have htm : t.size ≤ maxLen := by unfold maxLen; omega
  by_cases h : t.size ≤ 8000 ∧ CellsOk n f
  · have hl : (runL f n t).length ≤ t.size + 1 := classL_len (hitP f n t) (t.size + 1)
    exact ⟨_, _, by omega, fun W hr => implRun_yes s n cp f t W (len60W hn) hr hc h.1 h.2, fun W hr => specRun_yes s n cp f t W (len60W hn) hr hc h.1 h.2, fun i hi => run_ends h.2 h.1 hi⟩
  · exact ⟨0, fun _ => 0, by omega, fun W hr => implRun_no s n cp f t W (len60W hn) hr hc htm h, fun W hr => specRun_no s n cp f t W (len60W hn) hr hc htm h, fun i hi => by omega⟩
open Classical in
theorem fit_any (s : Option Addr) (n cp : Nat) (f : Nat → Cel) (t : ByteArray) (W : World) (hn : n ≤ 60) (hsm : ∀ i, i < n → (f i).c.size ≤ 256) (ht : t.size ≤ 20000) (hr : CRow W W.heap.size s n f) :
    Calls Tryz.prog 16 #[.slice s n cp, .string t] W fun e w' => ∃ b : Bool, (b = true ↔ FitK n f t) ∧ e = .returned (.bool b) ∧ Below W.heap.size W w' :=
  (specFitK_any s n cp f t W (len60W hn) hr (fun i hi => len256W (hsm i hi)) (by unfold maxLen; omega)).mono (fun e w' h => ⟨_, by exact decide_eq_true_iff, h⟩)
open Classical in
theorem ends_both (s : Option Addr) (n cp : Nat) (f : Nat → Atm) (t : ByteArray) (hn : n ≤ 5) (hsm : ∀ i, i < n → SmallA (f i)) (ht : t.size ≤ 28000) :
    ∃ ok : Bool, (∀ W, ARow W W.heap.size s n f → Calls Tryz.prog 13 #[.slice s n cp] W fun e w' => e = .returned (.bool ok) ∧ Below W.heap.size W w') ∧
      (ok = true → ∃ (kn : Nat) (kf : Nat → Cel) (rn : Nat) (rf : Nat → Int), rn ≤ 1048576 ∧
        (∀ W, ARow W W.heap.size s n f → Calls Tryz.prog 14 #[.slice s n cp] W fun e w' => NewCells W kn kf e w') ∧
        (∀ (W : World) (x : Option Addr) (k : Nat), CRow W W.heap.size x kn kf → Calls Tryz.prog 7 #[.slice x kn k, .string t] W fun e w' => NewInts W rn rf e w') ∧
        (∀ W, ARow W W.heap.size s n f → Calls Tryz.prog 15 #[.slice s n cp, .string t] W fun e w' => NewInts W rn rf e w')) := by
  have hnm : n ≤ maxLen := len60W (by omega)
  have hc : ∀ i, i < n → (f i).c.size ≤ maxLen := fun i hi => len256W (hsm i hi).1
  have htm : t.size ≤ maxLen := by unfold maxLen; omega
  refine ⟨decide (PatRight n f), fun W hr => specPRight_any s n cp f W hnm hr hc, fun hok => ?_⟩
  have hP : PatRight n f := of_decide_eq_true hok
  have hL : ∀ a ∈ atomsL f n, AtomRight a := fun a ha => by obtain ⟨j, hj, rfl⟩ := atomsL_mem ha; exact hP.2.2.1 j hj
  have hlen := pat_len hP
  have hkm : (cellsP (atomsL f n)).length ≤ maxLen := len60W (by omega)
  have hkc : ∀ i, i < (cellsP (atomsL f n)).length → ((cellsP (atomsL f n)).getD i cel0).c.size ≤ maxLen := fun i hi => len256W (celsP_class (fun a ha => by obtain ⟨j, hj, rfl⟩ := atomsL_mem ha; exact (hsm j hj).1) _ (getD_mem hi))
  by_cases h8 : t.size ≤ 8000
  · have hl := classL_len (hitP (fun i => (cellsP (atomsL f n)).getD i cel0) (cellsP (atomsL f n)).length t) (t.size + 1)
    have hok2 : CellsOk (cellsP (atomsL f n)).length (fun i => (cellsP (atomsL f n)).getD i cel0) := cells_rightW hP
    exact ⟨_, _, _, _, by exact Nat.le_trans hl (by omega), fun W hr => specKOf_yes s n cp f W hnm hr hc hP, fun W x k hx => implRun_yes x _ k _ t W hkm hx hkc h8 hok2, fun W hr => specEnds_yes s n cp f t _ W hnm hr hc h8 hP (hit_cuts hL)⟩
  · exact ⟨_, _, 0, fun _ => 0, by omega, fun W hr => specKOf_yes s n cp f W hnm hr hc hP, fun W x k hx => implRun_no x _ k _ t W hkm hx hkc htm (fun h => h8 h.1), fun W hr => specEnds_no s n cp f t W hnm hr hc htm (fun h => h8 h.1)⟩
end Go.Proofs.YtlgnplnmcdjbiaaGreat
namespace Go.Proofs.YtlgnplnmcdjbiaaGreat
open Go.RowKit


set_option maxRecDepth 100000 in
set_option maxHeartbeats 4000000 in
theorem not_any (b : Int) (sa : Option Addr) (n ka : Nat) (f : Nat → Int) (w : World) (hbb : 1 ≤ b) (hbc : b ≤ 320) (hf : ∀ i, i < n → 0 ≤ f i ∧ f i ≤ 4294967295) (hn0 : 0 < n) (hn : n ≤ 1048576) (ha : Row w w.heap.size sa n f) :
    Calls Tryz.prog 95 #[.agg #[.int .i64 b, .slice sa n ka]] w fun e w' => NewVec w b n (cutF b n (notF f)) e w' := by
  obtain ⟨b1, o1, rfl, hb1, hc1⟩ : ∃ bb off : Nat, sa = some ⟨bb, off, none⟩ ∧ bb < w.heap.size ∧ ∀ i, i < n → w.cell? ⟨bb, off + i, none⟩ = some (.int .i64 (f i)) := by
    rcases ha with h | h
    · omega
    · exact h
  have HA : Hid (Row w w.heap.size (some ⟨b1, o1, none⟩) n f) := ha
  have HC1 : Hid (∀ i, i < n → w.cell? ⟨b1, o1 + i, none⟩ = some (.int .i64 (f i))) := hc1
  have HF : Hid (∀ i, i < n → 0 ≤ f i ∧ f i ≤ 4294967295) := hf
  clear ha hc1 hf
  go_enter Tryz.func95, Tryz.ntmps95
  go_wp2_with fail
  have q1 := boxing w 26 b (some ⟨b1, o1, none⟩) n ka
  generalize w.alloc (.cells #[.int .i64 b, .slice (some ⟨b1, o1, none⟩) n ka] 26) = v1 at *
  have q3 := boxing v1 26 0 none 0 0
  generalize v1.alloc (.cells #[.int .i64 0, .slice none 0 0] 26) = v3 at *
  have X1 : Hid (Boxed v3 w.heap.size 26 b (some ⟨b1, o1, none⟩) n ka) := q1.2.1.kept q3.1 rfl
  have X3 : Hid (Boxed v3 (w.heap.size + 1) 26 0 none 0 0) := by rw [← q1.2.2]; exact q3.2.1
  have S3 : Hid (Since w v3) := since_call (since_call (since_refl _) q1.1) q3.1
  have z3 : v3.heap.size = w.heap.size + 2 := by rw [q3.2.2, q1.2.2]
  clear q1 q3
  refine (copy_any b _ n ka f v3 hn0 hn (row_since HA.out S3.out)).mono ?_
  rintro e w4 ⟨s4, c4, rfl, hb4, ho4⟩
  obtain ⟨g4, rfl, hg1, ho⟩ : ∃ g, s4 = some ⟨g, 0, none⟩ ∧ v3.heap.size ≤ g ∧ Own w4 g n f := by
    rcases ho4 with h | h
    · omega
    · exact h
  have hg2 := ho.1
  have O4 : Hid (Own w4 g4 n f) := ho
  have Y1 : Hid (Boxed w4 w.heap.size 26 b (some ⟨b1, o1, none⟩) n ka) := X1.out.kept hb4 rfl
  have Y3 : Hid (Boxed w4 (w.heap.size + 1) 26 0 none 0 0) := X3.out.kept hb4 rfl
  have S4 : Hid (Since w w4) := since_call S3.out hb4
  unfold vecV
  clear hb4 ho4 ho X1 X3 S3
  go_wp2
  have q5 := boxing w4 26 b (some ⟨g4, 0, none⟩) n c4
  generalize w4.alloc (.cells #[.int .i64 b, .slice (some ⟨g4, 0, none⟩) n c4] 26) = v5 at *
  obtain ⟨p5, hp5⟩ : ∃ p, p = w4.heap.size := ⟨_, rfl⟩
  rw [← hp5]
  have Y5 : Hid (Boxed v5 p5 26 b (some ⟨g4, 0, none⟩) n c4) := by rw [hp5]; exact q5.2.1
  have V1 : Hid (Boxed v5 w.heap.size 26 b (some ⟨b1, o1, none⟩) n ka) := Y1.out.kept q5.1 rfl
  have V3 : Hid (Boxed v5 (w.heap.size + 1) 26 0 none 0 0) := Y3.out.kept q5.1 rfl
  have S5 : Hid (Since w v5) := since_call S4.out q5.1
  have O5 : Hid (Own v5 g4 n f) := O4.out.kept q5.1 hg2
  have hgp : g4 < p5 := by omega
  clear q5 Y1 Y3 S4 O4 hg2 hp5
  go_loopw [4] (fun i wr => ∃ k : Nat, k ≤ n ∧ i = .int .i64 (k : Int) ∧ Since w wr ∧ Boxed wr w.heap.size 26 b (some ⟨b1, o1, none⟩) n ka ∧ Boxed wr (w.heap.size + 1) 26 0 none 0 0 ∧ Boxed wr p5 26 b (some ⟨g4, 0, none⟩) n c4 ∧ Own wr g4 n (fun i => if i < k then notF f i else f i)) (fun i _ => n - (intOf i).toNat)
  case atStart => exact ⟨0, Nat.zero_le _, rfl, S5.out, V1.out, V3.out, Y5.out, O5.out.congr (fun i _ => by simp)⟩
  case round =>
    obtain ⟨k, hk, rfl, hS, hx1, hx3, hx5, hown⟩ := hrel
    have HS : Hid (Since w wr) := hS
    have H1 : Hid (Boxed wr w.heap.size 26 b (some ⟨b1, o1, none⟩) n ka) := hx1
    have H3 : Hid (Boxed wr (w.heap.size + 1) 26 0 none 0 0) := hx3
    have H5 : Hid (Boxed wr p5 26 b (some ⟨g4, 0, none⟩) n c4) := hx5
    have HW : Hid (Own wr g4 n (fun i => if i < k then notF f i else f i)) := hown
    obtain ⟨ca0, ca1⟩ := hx1.cells
    obtain ⟨cc0, cc1, cc2, cc3⟩ := hx3.four
    obtain ⟨cd0, cd1⟩ := hx5.cells
    by_cases hkl : k < n
    · have cz : wr.cell? ⟨b1, o1 + k, none⟩ = some (.int .i64 (f k)) := by rw [hS.below.cell (p := ⟨b1, o1 + k, none⟩) hb1]; exact HC1.out k hkl
      have cw := hown.2.1 k hkl
      have cf := hown.2.2 k hkl
      have hsz := hown.1
      have r1 := HF.out k hkl
      clear hS hx1 hx3 hx5 hown
      have hki : (k : Int) < (n : Int) := by omega
      have hk0 : (0 : Int) ≤ (k : Int) := by omega
      go_wp2
      go_region
      all_goals
        go_wp2
        go_roundw
        case rel => exact ⟨k + 1, by omega, by go_num, since_drew (since_set HS.out (by show w.heap.size ≤ g4; omega)), (H1.out.setOther _ _ (by show g4 ≠ w.heap.size; omega)).drew, (H3.out.setOther _ _ (by show g4 ≠ w.heap.size + 1; omega)).drew, (H5.out.setOther _ _ (by show g4 ≠ p5; omega)).drew, ((HW.out.set hkl (4294967295 - f k)).congr (fun i hi => by
          by_cases e : i = k
          · subst e
            simp [notF]
          · simp only [if_neg e]
            by_cases e2 : i < k
            · rw [if_pos e2, if_pos (by omega)]
            · rw [if_neg e2, if_neg (by omega)])).drew⟩
        case measure => simp [intOf]; omega
    · have hki : ¬ (k : Int) < (n : Int) := by omega
      clear hS hx1 hx3 hx5 hown
      go_wp2_with fail
      refine (cut_any b g4 n c4 (notF f) wr hbb hbc hn0 hn (HW.out.congr (fun i hi => if_pos (by omega))) (fun i hi => by unfold notF; have := HF.out i hi; omega)).mono ?_
      rintro e w6 ⟨rfl, hgr, ho6⟩
      have Z3 : Hid (Boxed w6 (w.heap.size + 1) 26 0 none 0 0) := by
        show Boxed w6 (w.heap.size + 1) 26 0 none 0 0
        unfold Boxed
        rw [hgr.block _ H3.out.lt (fun e => by injection e with e; omega)]
        exact H3.out
      have hin : OnlyIn wr w6 g4 (g4 + 1) := ⟨some g4, hgr, fun g' e => by injection e with e; omega⟩
      have S6 : Hid (Since w w6) := ⟨HS.out.below.trans (hin.below (by omega) HS.out.size)⟩
      have O6 : Hid (Own w6 g4 n (cutF b n (notF f))) := ho6
      unfold vecV
      clear ca0 ca1 cc0 cc1 cc2 cc3 cd0 cd1 hgr ho6 hin
      obtain ⟨cc0, cc1, cc2, cc3⟩ := Z3.out.four
      go_wp2
      refine bodyPost_ret (v := vecV b (some ⟨g4, 0, none⟩) n c4) (by simp [results, Tryz.results95, go_sem, vecV, cc0, cc1]) rfl ?_
      exact ⟨_, _, rfl, (since_set (since_set S6.out (by show w.heap.size ≤ w.heap.size + 1; omega)) (by show w.heap.size ≤ w.heap.size + 1; omega)).below, Or.inr ⟨g4, rfl, by omega, (O6.out.setOther _ _ (by show w.heap.size + 1 ≠ g4; omega)).setOther _ _ (by show w.heap.size + 1 ≠ g4; omega)⟩⟩
end Go.Proofs.YtlgnplnmcdjbiaaGreat
