/- What is proved here: spec.PutNum and impl.PutNum hand back the same bytes (leb of the folded number), in new memory; nothing that was there turns. -/
import Derived.Test.YtpdedggnjcnpgaaDoorProg
import Derived.WalkKit
import Derived.WalkSpells
import Derived.OpenShut
import Derived.Laws.BytesArg
import Derived.Laws.BitsAllLaws
namespace Go.Proofs.YtpdedggnjcnpgaaDoor
open Go.RowKit

/-- The number without its sign. -/
def foldOf (n : Int) : Int := if n < 0 then -2 * n - 1 else 2 * n
/-- Seven bits a byte, the lowest first. -/
def leb : Nat → Int → List Int
  | 0, u => [u]
  | f + 1, u => if u < 128 then [u] else (u % 128 + 128) :: leb f (u / 128)
/-- The bytes of a number. -/
def putNum (n : Int) : ByteArray := strOfNums (leb 64 (foldOf n))
theorem leb_last (f : Nat) (u : Int) (h : u < 128) : leb f u = [u] := by
  cases f with
  | zero => rfl
  | succ f => unfold leb; rw [if_pos h]
theorem leb_more (f : Nat) (u : Int) (h : 128 ≤ u) : leb (f + 1) u = (u % 128 + 128) :: leb f (u / 128) := by
  show (if u < 128 then [u] else _) = _
  rw [if_neg (by omega)]
theorem leb_length : ∀ (f : Nat) (u : Int), 1 ≤ (leb f u).length ∧ (leb f u).length ≤ f + 1
  | 0, u => by simp [leb]
  | f + 1, u => by
    unfold leb
    split
    · simp
    · have := leb_length f (u / 128)
      simp
      omega
theorem not64 (x : Int) (h0 : 0 ≤ x) (h1 : x ≤ 18446744073709551615) : bits .xor .u64 IntKind.u64.max x = 18446744073709551615 - x := by
  obtain ⟨a, rfl⟩ := Int.eq_ofNat_of_zero_le h0
  show IntKind.u64.wrap ((BitVec.ofInt 64 18446744073709551615 ^^^ BitVec.ofInt 64 (a : Int)).toNat : Int) = _
  have h2 : BitVec.ofInt 64 18446744073709551615 = BitVec.allOnes 64 := by decide
  rw [h2, BitVec.allOnes_xor, BitVec.toNat_not, ofInt_u64 a (by omega), IntKind.wrap_u64]
  omega
theorem fold_neg (n : Int) (h1 : -9223372036854775808 ≤ n) (h : n < 0) : bits .xor .u64 IntKind.u64.max (IntKind.u64.wrap (IntKind.u64.wrap n * 2)) = foldOf n := by
  rw [IntKind.wrap_u64, IntKind.wrap_u64, not64 _ (by omega) (by omega)]
  unfold foldOf
  rw [if_pos h]
  omega
theorem foldOf_range (n : Int) (h1 : -9223372036854775808 ≤ n) (h2 : n ≤ 9223372036854775807) : 0 ≤ foldOf n ∧ foldOf n ≤ 18446744073709551615 := by
  unfold foldOf
  split <;> omega
theorem ret_str {a b : ByteArray} (h : a = b) : Ending.returned (.string a) = .returned (.string b) := by rw [h]
theorem ret_num {k : IntKind} {a b : Int} (h : a = b) : Ending.returned (.int k a) = .returned (.int k b) := by rw [h]

set_option maxHeartbeats 1000000 in
theorem specFold_any (n : Int) (w : World) (h1 : -9223372036854775808 ≤ n) (h2 : n ≤ 9223372036854775807) :
    Calls Tryd.prog 15 #[.int .i64 n] w fun e w' => e = .returned (.int .u64 (foldOf n)) ∧ w' = w := by
  by_cases h : n < 0
  · go_enter Tryd.func15, Tryd.ntmps15
    go_wp2
    go_ret
    exact ⟨ret_num (by unfold foldOf; rw [if_pos h]; omega), rfl⟩
  · go_enter Tryd.func15, Tryd.ntmps15
    go_wp2
    go_ret
    exact ⟨ret_num (by unfold foldOf; rw [if_neg (by omega)]), rfl⟩
set_option maxHeartbeats 1000000 in
theorem implFold_any (n : Int) (w : World) (h1 : -9223372036854775808 ≤ n) (h2 : n ≤ 9223372036854775807) :
    Calls Tryd.prog 14 #[.int .i64 n] w fun e w' => e = .returned (.int .u64 (foldOf n)) ∧ w' = w := by
  by_cases hneg : n < 0
  · go_enter Tryd.func14, Tryd.ntmps14
    go_wp2
    go_ret
    exact ⟨ret_num (fold_neg n h1 hneg), rfl⟩
  · go_enter Tryd.func14, Tryd.ntmps14
    go_wp2
    go_ret
    exact ⟨ret_num (by unfold foldOf; rw [if_neg (by omega)]; omega), rfl⟩

theorem Tryd.byteInfo : (Tryd.prog.info? 5).map (fun i => (i.zero, i.size, i.bytes)) = some (some (.int .u8 0), 1, 1) := by kernel_rfl

theorem conv_own {w : World} {base n : Nat} {v : Value} {M : List Int} (h : w.ownsRow base 5 1 v n (M.map (Value.int .u8))) (hn : 0 < n) :
    (convert 22 9 v).run Tryd.prog w = .ok (.string (strOfNums M)) w := by
  have hl : M.length = n := by simpa using h.1
  obtain ⟨_, ⟨_, h0⟩ | ⟨g, cap, cur, rfl, hg, hh, hnc, hm, hs, ht⟩⟩ := h
  · omega
  · refine run_convert_bytes_arg (P := Tryd.prog) w 22 5 Tryd.underlying22 Tryd.underlying5 g 0 n cap M hl (fun i hi => ?_) 9 Tryd.underlying9
    have h1 : (cur.toList.take (n * 1))[i]? = (M.map (Value.int .u8))[i]? := by rw [ht]
    rw [List.getElem?_take_of_lt (by omega), List.getElem?_map] at h1
    have h2 : M[i]? = some (M.getD i 0) := by rw [List.getD, List.getElem?_eq_getElem (by omega)]; rfl
    rw [h2] at h1
    simpa [World.cell?, hh] using h1

/-- What holds at the loop's head: L is written, x is left. -/
def PutAt (u0 : Int) (w wr : World) (v : Value) (x : Int) (L : List Int) (f : Nat) : Prop :=
  0 ≤ x ∧ x ≤ 18446744073709551615 ∧ x < 2 ^ f ∧ L.length + f = 64 ∧ L ++ leb f x = leb 64 u0 ∧ wr.ownsRow w.heap.size 5 1 v L.length (L.map (Value.int .u8)) ∧ Below w.heap.size w wr
theorem putAt_more {u0 : Int} {w wr wr' : World} {v v' : Value} {x : Int} {L : List Int} {f : Nat} (h : PutAt u0 w wr v x L f) (hx : 128 ≤ x)
    (hown : wr'.ownsRow w.heap.size 5 1 v' (L.length + 1) (L.map (Value.int .u8) ++ [.int .u8 (x % 128 + 128)])) (hb : Below w.heap.size w wr') : ∃ L' f', PutAt u0 w wr' v' (x / 128) L' f' := by
  obtain ⟨h0, h1, h2, h3, h4, _, _⟩ := h
  cases f with
  | zero => omega
  | succ f =>
    refine ⟨L ++ [x % 128 + 128], f, by omega, by omega, ?_, by simp; omega, ?_, by simpa using hown, hb⟩
    · have : (2 : Int) ^ (f + 1) = 2 ^ f * 2 := Int.pow_succ 2 f
      omega
    · rw [List.append_assoc, ← h4, leb_more f x hx]
      rfl

set_option maxHeartbeats 1000000 in
theorem specPut_any (n : Int) (w : World) (h1 : -9223372036854775808 ≤ n) (h2 : n ≤ 9223372036854775807) :
    Calls Tryd.prog 6 #[.int .i64 n] w fun e w' => e = .returned (.string (putNum n)) ∧ Below w.heap.size w w' := by
  obtain ⟨i0, hi, hz0, hz1, hz2⟩ := info_parts Tryd.byteInfo
  have hr := foldOf_range n h1 h2
  go_enter Tryd.func6, Tryd.ntmps6
  go_wp2_with (go_at_call 15; refine (specFold_any _ _ h1 h2).mono ?_; rintro e w ⟨rfl, rfl⟩)
  go_loopw [3, 4] (fun u v wr => ∃ x L f, u = .int .u64 x ∧ PutAt (foldOf n) w wr v x L f) (fun u _ _ => (intOf u).toNat)
  case atStart => exact ⟨_, [], 64, rfl, hr.1, hr.2, by omega, rfl, rfl, World.ownsRow_made w #[] 0 (Nat.le_refl _) (by decide) rfl, (Below.refl _ _).alloc (Nat.le_refl _) _⟩
  case round =>
    obtain ⟨x, L, f, rfl, hp⟩ := hrel
    have HP : Hid (PutAt (foldOf n) w wr u4 x L f) := hp
    obtain ⟨hx0, hx1, _, hlen, _, hown, hbel⟩ := hp
    by_cases hx : 128 ≤ x
    · go_wp2_with (at_builtin; refine wpList_append_own _ rfl (.tmp 10) (.tmp 15) 22 rfl w.heap.size 5 i0 (.int .u8 0) 1 1 Tryd.underlying22 hi hz0 hz1 hz2 rfl (by decide) _ _ _ rfl (hown.alloc _) ⟨wr.heap.size, 0, none⟩ 1 1 [.int .u8 (x % 128 + 128)] rfl rfl ?c1 ?c2 ?c3 ?c4 ?c5 ?_)
      case c1 => exact cell_one_new _ _ _
      case c2 => intro u hu; simp at hu; subst hu; rfl
      case c3 => unfold maxLen; omega
      case c4 => omega
      case c5 => have := hbel.size; simp; omega
      intro v' w1 hown' hgrow _
      have hbel' : Below w.heap.size w w1 := (hbel.alloc hbel.size _).grown hgrow (by have := hbel.size; simp; omega) (fun k hk => (hown.lt k hk).1)
      have R := putAt_more HP.out hx hown' hbel'
      have HR : Hid (∃ L' f', PutAt (foldOf n) w w1 v' (x / 128) L' f') := R
      clear R hbel' hown' hgrow hown hbel
      go_wp2
      go_roundw
      case rel =>
        obtain ⟨L', f', h⟩ := HR.out
        exact ⟨_, L', f', rfl, h⟩
      case measure => simp [intOf]; omega
    · have hfin : L ++ [x] = leb 64 (foldOf n) := by
        have h := HP.out.2.2.2.2.1
        rw [leb_last f x (by omega)] at h
        exact h
      have HF : Hid (L ++ [x] = leb 64 (foldOf n)) := hfin
      clear hfin
      have hlt : x < 128 := by omega
      go_wp2_with (at_builtin; refine wpList_append_own _ rfl (.tmp 19) (.tmp 22) 22 rfl w.heap.size 5 i0 (.int .u8 0) 1 1 Tryd.underlying22 hi hz0 hz1 hz2 rfl (by decide) _ _ _ rfl (hown.alloc _) ⟨wr.heap.size, 0, none⟩ 1 1 [.int .u8 x] rfl rfl ?d1 ?d2 ?d3 ?d4 ?d5 ?_)
      case d2 => rfl
      case d3 => unfold maxLen; omega
      case d4 => omega
      case d5 => have := hbel.size; simp; omega
      intro v' w1 hown' hgrow _
      have hbel' : Below w.heap.size w w1 := (hbel.alloc hbel.size _).grown hgrow (by have := hbel.size; simp; omega) (fun k hk => (hown.lt k hk).1)
      have HB : Hid (Below w.heap.size w w1) := hbel'
      have hcv := conv_own (M := L ++ [x]) (by simpa using hown') (by omega)
      clear hbel' hown' hgrow hown hbel
      go_wp2
      go_ret
      exact ⟨ret_str (congrArg strOfNums HF.out), HB.out⟩
theorem make_ten (w : World) : ∃ C : Array Value, C.size = 10 * 1 ∧
    (Instr.makeSlice 22 (.int .i64 0) (.int .i64 10)).run Tryd.prog w = .ok (.slice (some ⟨w.heap.size, 0, none⟩) 0 10) (w.alloc (.cells C 5)) := by
  obtain ⟨i0, hi, hz0, hz1, hz2⟩ := info_parts Tryd.byteInfo
  refine ⟨madeCells (Value.int .u8 0).cells (10 * 1), by rw [size_madeCells], ?_⟩
  have h := run_make (P := Tryd.prog) w 22 5 i0 (.int .u8 0) Tryd.underlying22 hi hz0 .i64 .i64 0 10 (by decide) (by decide) (by rw [hz2]; decide) (by decide)
  rw [h, hz1]
  rfl
theorem or128 (x : Int) : bits .or .u8 (x % 256) 128 = x % 128 + 128 := by
  rw [u8_or _ _ (by omega) (by omega) (by decide) (by decide)]
  have hb : ∀ m : Nat, m < 256 → m ||| 128 = m % 128 + 128 := by decide +kernel
  have h1 := hb (x % 256).toNat (by omega)
  show (((x % 256).toNat ||| 128 : Nat) : Int) = _
  rw [h1]
  omega

set_option maxHeartbeats 1000000 in
theorem implPut_any (n : Int) (w : World) (h1 : -9223372036854775808 ≤ n) (h2 : n ≤ 9223372036854775807) :
    Calls Tryd.prog 5 #[.int .i64 n] w fun e w' => e = .returned (.string (putNum n)) ∧ Below w.heap.size w w' := by
  obtain ⟨i0, hi, hz0, hz1, hz2⟩ := info_parts Tryd.byteInfo
  have hr := foldOf_range n h1 h2
  obtain ⟨C, hC, hmk⟩ := make_ten w
  go_enter Tryd.func5, Tryd.ntmps5
  go_wp2_with (go_at_call 14; refine (implFold_any _ _ h1 h2).mono ?_; rintro e w ⟨rfl, rfl⟩)
  go_loopw [3, 4] (fun v u wr => ∃ x L f, u = .int .u64 x ∧ PutAt (foldOf n) w wr v x L f) (fun _ u _ => (intOf u).toNat)
  case atStart => exact ⟨_, [], 64, rfl, hr.1, hr.2, by omega, rfl, rfl, World.ownsRow_made w C 10 (Nat.le_refl _) (by decide) hC, (Below.refl _ _).alloc (Nat.le_refl _) _⟩
  case round =>
    obtain ⟨x, L, f, rfl, hp⟩ := hrel
    have HP : Hid (PutAt (foldOf n) w wr u3 x L f) := hp
    obtain ⟨hx0, hx1, _, hlen, _, hown, hbel⟩ := hp
    have hor := or128 x
    by_cases hx : 128 ≤ x
    · go_wp2_with (at_builtin; refine wpList_append_own _ rfl (.tmp 10) (.tmp 14) 22 rfl w.heap.size 5 i0 (.int .u8 0) 1 1 Tryd.underlying22 hi hz0 hz1 hz2 rfl (by decide) _ _ _ rfl (hown.alloc _) ⟨wr.heap.size, 0, none⟩ 1 1 [.int .u8 (x % 128 + 128)] rfl rfl ?c1 ?c2 ?c3 ?c4 ?c5 ?_)
      case c1 => exact cell_one_new _ _ _
      case c2 => intro u hu; simp at hu; subst hu; rfl
      case c3 => unfold maxLen; omega
      case c4 => omega
      case c5 => have := hbel.size; simp; omega
      intro v' w1 hown' hgrow _
      have hbel' : Below w.heap.size w w1 := (hbel.alloc hbel.size _).grown hgrow (by have := hbel.size; simp; omega) (fun k hk => (hown.lt k hk).1)
      have R := putAt_more HP.out hx hown' hbel'
      have HR : Hid (∃ L' f', PutAt (foldOf n) w w1 v' (x / 128) L' f') := R
      clear R hbel' hown' hgrow hown hbel
      go_wp2
      go_roundw
      case rel =>
        obtain ⟨L', f', h⟩ := HR.out
        exact ⟨_, L', f', rfl, h⟩
      case measure => simp [intOf]; omega
    · have hfin : L ++ [x] = leb 64 (foldOf n) := by
        have h := HP.out.2.2.2.2.1
        rw [leb_last f x (by omega)] at h
        exact h
      have HF : Hid (L ++ [x] = leb 64 (foldOf n)) := hfin
      clear hfin
      have hlt : x < 128 := by omega
      go_wp2_with (at_builtin; refine wpList_append_own _ rfl (.tmp 18) (.tmp 21) 22 rfl w.heap.size 5 i0 (.int .u8 0) 1 1 Tryd.underlying22 hi hz0 hz1 hz2 rfl (by decide) _ _ _ rfl (hown.alloc _) ⟨wr.heap.size, 0, none⟩ 1 1 [.int .u8 x] rfl rfl ?d1 ?d2 ?d3 ?d4 ?d5 ?_)
      case d2 => rfl
      case d3 => unfold maxLen; omega
      case d4 => omega
      case d5 => have := hbel.size; simp; omega
      intro v' w1 hown' hgrow _
      have hbel' : Below w.heap.size w w1 := (hbel.alloc hbel.size _).grown hgrow (by have := hbel.size; simp; omega) (fun k hk => (hown.lt k hk).1)
      have HB : Hid (Below w.heap.size w w1) := hbel'
      have hcv := conv_own (M := L ++ [x]) (by simpa using hown') (by omega)
      clear hbel' hown' hgrow hown hbel
      go_wp2
      go_ret
      exact ⟨ret_str (congrArg strOfNums HF.out), HB.out⟩
end Go.Proofs.YtpdedggnjcnpgaaDoor
