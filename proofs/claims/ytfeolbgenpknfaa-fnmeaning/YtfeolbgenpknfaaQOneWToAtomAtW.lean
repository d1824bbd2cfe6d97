/- What is proved here: a slice of one byte in a new block, made into a text.
   What is said here: the digits of a number, as a plain function.
   What is proved here: the laws' markText hands back a text that hangs on its number alone; nothing that was there turns.
   What is proved here: the laws' marks over slices of atoms are laid: what is handed back and what they leave as it was.
   What is proved here: the laws' helpers over a slice of atoms, begun at any number: what is left of a size, the marks. -/
import Derived.Test.YtfeolbgenpknfaaProg
import Derived.WalkKit
import Derived.Laws.BytesArg
import Derived.Test.YtfeolbgenpknfaaQAtomSToDrawPatW
import Derived.Deep.RegionWith
import Derived.Test.YtfeolbgenpknfaaQLwHitWToAtomH
namespace Go.Proofs.Ytfeolbgenpknfaa
open Go.RowKit

/-- The text of one byte. -/
def one (x : Int) : ByteArray := strOfNums [x]
theorem one_size (x : Int) : (one x).size = 1 := by unfold one; rw [strOfNums_size]; rfl
theorem conv_one (x : Int) (w : World) : (convert 22 9 (Value.slice (some ⟨w.heap.size, 0, none⟩) 1 1)).run Try.prog (w.alloc (.cells #[.int .u8 x] 5)) = .ok (.string (one x)) (w.alloc (.cells #[.int .u8 x] 5)) :=
  run_convert_bytes_arg (P := Try.prog) _ 22 5 Try.underlying22 Try.underlying5 w.heap.size 0 1 1 [x] rfl (fun i hi => by
    rw [Nat.zero_add, World.cell?_alloc_mark]
    match i, hi with
    | 0, _ => rfl) 9 Try.underlying9
end Go.Proofs.Ytfeolbgenpknfaa
namespace Go.Proofs.Ytfeolbgenpknfaa
open Go.RowKit

/-- The digits of a number ahead of a text. -/
def mdig (n : Nat) (acc : ByteArray) : ByteArray := if n = 0 then acc else mdig (n / 10) (one (48 + ((n % 10 : Nat) : Int)) ++ acc)
termination_by n
decreasing_by omega
theorem mdig_zero (acc : ByteArray) : mdig 0 acc = acc := by rw [mdig, if_pos rfl]
theorem mdig_some {n : Nat} (h : n ≠ 0) (acc : ByteArray) : mdig n acc = mdig (n / 10) (one (48 + ((n % 10 : Nat) : Int)) ++ acc) := by rw [mdig, if_neg h]
/-- A number of one digit or two. -/
def decL (n : Nat) : List Int := if n < 10 then [48 + (n : Int)] else [48 + ((n / 10 : Nat) : Int), 48 + ((n % 10 : Nat) : Int)]
def decT (n : Nat) : ByteArray := strOfNums (decL n)
theorem strApp2 (a b : List Int) : strOfNums (a ++ b) = strOfNums a ++ strOfNums b := by
  unfold strOfNums
  apply ByteArray.ext
  simp
theorem mdig_dec {k : Nat} (h0 : 0 < k) (h1 : k < 100) : mdig k ⟨#[]⟩ = decT k := by
  unfold decT decL
  rw [mdig_some (by omega)]
  by_cases h : k < 10
  · rw [if_pos h, show k / 10 = 0 by omega, mdig_zero, show k % 10 = k by omega]
    show strOfNums [48 + (k : Int)] ++ strOfNums [] = _
    rw [← strApp2]
    rfl
  · rw [if_neg h, mdig_some (by omega), show k / 10 / 10 = 0 by omega, mdig_zero, show k / 10 % 10 = k / 10 by omega]
    show strOfNums [48 + ((k / 10 : Nat) : Int)] ++ (strOfNums [48 + ((k % 10 : Nat) : Int)] ++ strOfNums []) = _
    rw [← strApp2, ← strApp2]
    rfl
theorem decT_size (k : Nat) : 1 ≤ (decT k).size ∧ (decT k).size ≤ 2 := by
  unfold decT decL
  rw [strOfNums_size]
  split <;> simp
end Go.Proofs.Ytfeolbgenpknfaa
namespace Go.Proofs.Ytfeolbgenpknfaa
open Go.RowKit

/-- The text of a mark. -/
def mtext (k : Nat) : ByteArray := (⟨#[109]⟩ : ByteArray) ++ mdig k ⟨#[]⟩
theorem app_size (a b : ByteArray) : (a ++ b).size = a.size + b.size := ByteArray.size_append

set_option maxHeartbeats 1000000 in
theorem markText_any (k : Nat) (w : World) (h0 : 0 < k) (h1 : k ≤ 1099511627776) :
    Calls Try.prog 87 #[.int .i64 (k : Int)] w fun e w' => e = .returned (.string (mtext k)) ∧ Below w.heap.size w w' := by
  have h2 : ¬ (k : Int) ≤ 0 := by omega
  go_enter Try.func87, Try.ntmps87
  go_wp2
  go_loopw [0, 3] (fun j o wr => ∃ (x : Nat) (t : ByteArray), j = .int .i64 (x : Int) ∧ o = .string t ∧ x + t.size ≤ k ∧ mdig x t = mdig k ⟨#[]⟩ ∧ Below w.heap.size w wr) (fun j _ _ => (intOf j).toNat)
  case atStart => exact ⟨k, ⟨#[]⟩, rfl, rfl, Nat.le_refl _, rfl, Below.refl _ _⟩
  case round =>
    obtain ⟨x, t, rfl, rfl, hx, hm, hbel⟩ := hrel
    have HB : Hid (Below w.heap.size w wr) := hbel
    have HM : Hid (mdig x t = mdig k ⟨#[]⟩) := hm
    clear hbel hm
    by_cases hx0 : x = 0
    · subst hx0
      have hle : ¬ (0 : Int) < ((0 : Nat) : Int) := by omega
      go_wp2
      go_ret
      refine ⟨?_, HB.out⟩
      show Ending.returned (.string ((⟨#[109]⟩ : ByteArray) ++ t)) = _
      unfold mtext
      rw [← HM.out, mdig_zero]
    · have hpos : (0 : Int) < (x : Int) := by omega
      have hx1 : (x : Int) ≤ 1099511627776 := by omega
      have HN : Hid (mdig x t = mdig (x / 10) (one (48 + ((x % 10 : Nat) : Int)) ++ t)) := mdig_some hx0 t
      have hcv := fun v => conv_one v wr
      have hw : IntKind.u8.wrap (48 + (x : Int) % 10) = 48 + (x : Int) % 10 := by rw [IntKind.wrap_u8]; omega
      have hlen : ¬ 9223372036854775807 < (one (48 + (x : Int) % 10)).size + t.size := by rw [one_size]; omega
      go_wp2
      go_roundw
      case rel =>
        refine ⟨x / 10, one (48 + ((x % 10 : Nat) : Int)) ++ t, by go_num, ?_, ?_, by rw [← HN.out]; exact HM.out, HB.out.alloc HB.out.size _⟩
        · rw [show ((x % 10 : Nat) : Int) = (x : Int) % 10 by omega]
        · rw [app_size, one_size]
          have : x / 10 < x := by omega
          omega
      case measure => simp [intOf]; omega
end Go.Proofs.Ytfeolbgenpknfaa
namespace Go.Proofs.Ytfeolbgenpknfaa
open Go.RowKit

/-- A marked atom. -/
def markA (i : Nat) : Atm := ⟨mtext (1 + i * 3), ((1 + i * 3 + 1 : Nat) : Int), ((1 + i * 3 + 2 : Nat) : Int)⟩
theorem only_setA {a w : World} {b i : Nat} {v : Value} (h : a.grownBy w (some b)) : a.grownBy (w.setCell ⟨b, i, none⟩ v) (some b) :=
  h.trans ⟨rfl, rfl, rfl, by simp [World.setCell], fun k _ hk => Below.heap_setCell _ _ _ _ (fun e => hk (by simp [e]))⟩

set_option maxRecDepth 100000 in
set_option maxHeartbeats 2000000 in
theorem markAtoms_own (g n cap : Nat) (f : Nat → Atm) (w : World) (hn : n ≤ 1048576) (ho : AOwn w g n f) :
    Calls Try.prog 75 #[.slice (some ⟨g, 0, none⟩) n cap, .int .i64 1] w fun e w' => e = .returned (.int .i64 ((1 + n * 3 : Nat) : Int)) ∧ w.grownBy w' (some g) ∧ AOwn w' g n markA := by
  have HO : Hid (AOwn w g n f) := ho
  clear ho
  go_enter Try.func75, Try.ntmps75
  go_wp2
  go_loopw [1, 5] (fun kv i wr => ∃ j : Nat, j ≤ n ∧ kv = .int .i64 ((1 + j * 3 : Nat) : Int) ∧ i = .int .i64 (j : Int) ∧ w.grownBy wr (some g) ∧ AOwn wr g n (fun i => if i < j then markA i else f i)) (fun _ i _ => n - (intOf i).toNat)
  case atStart => exact ⟨0, Nat.zero_le _, rfl, rfl, World.grownBy.refl _ _, HO.out.congr (fun i _ => by simp)⟩
  case round =>
    obtain ⟨j, hj, rfl, rfl, hgr, hown⟩ := hrel
    have HG : Hid (w.grownBy wr (some g)) := hgr
    have HW : Hid (AOwn wr g n (fun i => if i < j then markA i else f i)) := hown
    have hsz := hown.lt
    clear hgr hown
    by_cases hjl : j < n
    · have hji : (j : Int) < (n : Int) := by omega
      have hj0 : (0 : Int) ≤ (j : Int) := by omega
      obtain ⟨q, hq⟩ : ∃ q, 1 + j * 3 = q := ⟨_, rfl⟩
      have HQ : Hid (1 + j * 3 = q) := hq
      have hq1 : 0 < q := by omega
      have hq2 : q ≤ 4000000 := by omega
      rw [hq]
      clear hq
      go_wp2_with fail
      refine (markText_any q _ hq1 (by omega)).mono ?_
      rintro e w1 ⟨rfl, hb1⟩
      have HW1 : Hid (AOwn w1 g n (fun i => if i < j then markA i else f i)) := HW.out.kept hb1 hsz
      have HG1 : Hid (w.grownBy w1 (some g)) := HG.out.trans (grown_of_below hb1)
      have hsz1 := HW1.out.lt
      obtain ⟨⟨d0, d1, d2⟩, e0, e1, e2⟩ := HW1.out.parts hjl
      clear hb1
      have HM : Hid (markA j = ⟨mtext q, ((q + 1 : Nat) : Int), ((q + 2 : Nat) : Int)⟩) := by show markA j = _; unfold markA; rw [HQ.out]
      generalize mtext q = tq at *
      go_wp2
      go_roundw
      case rel =>
        refine ⟨j + 1, by omega, ?_, by go_num, only_setA (only_setA (only_setA HG1.out)), ?_⟩
        · congr 1
          have := HQ.out
          omega
        · have h1 := HW1.out.set hjl (markA j)
          rw [HM.out] at h1
          simp only at h1
          rw [show ((q + 1 : Nat) : Int) = (q : Int) + 1 by omega, show ((q + 2 : Nat) : Int) = (q : Int) + 1 + 1 by omega] at h1
          refine h1.congr (fun i hi => ?_)
          by_cases e : i = j
          · subst e
            rw [if_pos rfl, if_pos (by omega), HM.out, show ((q + 1 : Nat) : Int) = (q : Int) + 1 by omega, show ((q + 2 : Nat) : Int) = (q : Int) + 1 + 1 by omega]
          · rw [if_neg e]
            by_cases e2 : i < j
            · rw [if_pos e2, if_pos (by omega)]
            · rw [if_neg e2, if_neg (by omega)]
      case measure => simp [intOf]; omega
    · have hji : ¬ (j : Int) < (n : Int) := by omega
      obtain rfl : j = n := by omega
      go_wp2
      go_ret
      exact ⟨rfl, HG.out, HW.out.congr (fun i hi => if_pos (by omega))⟩
theorem markAtoms_none (sa : Option Addr) (cap : Nat) (w : World) :
    Calls Try.prog 75 #[.slice sa 0 cap, .int .i64 1] w fun e w' => e = .returned (.int .i64 1) ∧ w' = w := by
  go_enter Try.func75, Try.ntmps75
  go_wp2
  go_loopw [1, 5] (fun kv i wr => kv = .int .i64 1 ∧ i = .int .i64 0 ∧ wr = w) (fun _ _ _ => 0)
  case atStart => exact ⟨rfl, rfl, rfl⟩
  case round =>
    obtain ⟨rfl, rfl, rfl⟩ := hrel
    go_wp2
    go_ret
    exact ⟨rfl, rfl⟩
theorem markAtoms_any (sa : Option Addr) (n cap lo hi : Nat) (f : Nat → Atm) (w : World) (hn : n ≤ 1048576) (ho : ASl w lo hi sa n f) :
    Calls Try.prog 75 #[.slice sa n cap, .int .i64 1] w fun e w' => e = .returned (.int .i64 ((1 + n * 3 : Nat) : Int)) ∧ OnlyA w w' lo hi ∧ ASl w' lo hi sa n markA := by
  rcases Nat.eq_zero_or_pos n with rfl | hp
  · refine (markAtoms_none sa cap w).mono ?_
    rintro e w' ⟨rfl, rfl⟩
    exact ⟨rfl, ⟨none, World.grownBy.refl _ _, fun _ h => by cases h⟩, Or.inl rfl⟩
  · rcases ho with rfl | ⟨g, rfl, hlo, hhi, ho⟩
    · omega
    · refine (markAtoms_own g n cap f w hn ho).mono ?_
      rintro e w' ⟨rfl, hg, ho'⟩
      exact ⟨rfl, ⟨some g, hg, fun g' h => by cases h; exact ⟨hlo, hhi⟩⟩, Or.inr ⟨g, rfl, hlo, hhi, ho'⟩⟩

end Go.Proofs.Ytfeolbgenpknfaa
namespace Go.Proofs.Ytfeolbgenpknfaa
open Go.RowKit

/-- A marked atom, the marks begun at a number. -/
def markQ (q i : Nat) : Atm := ⟨mtext (q + i * 3), ((q + i * 3 + 1 : Nat) : Int), ((q + i * 3 + 2 : Nat) : Int)⟩
set_option maxHeartbeats 1000000 in
theorem szAtomsAt_any (sa : Option Addr) (n cap : Nat) (f : Nat → Atm) (lf : Int) (w : World) (hl0 : 0 ≤ lf) (hl9 : lf ≤ 1048576) (hn : n ≤ maxLen) (hr : ARow w w.heap.size sa n f) (hc : ∀ i, i < n → (f i).c.size ≤ maxLen) :
    Calls Try.prog 71 #[.slice sa n cap, .int .i64 lf] w fun e w' => (∃ z : Int, e = .returned (.int .i64 z) ∧ (z < 0 ∨ (0 ≤ z ∧ z + (n : Int) ≤ lf ∧ ∀ i, i < n → (f i).c.size ≤ 1048576))) ∧ Below w.heap.size w w' := by
  unfold maxLen at hn
  have HC : Hid (∀ i, i < n → (f i).c.size ≤ maxLen) := hc
  have HR : Hid (ARow w w.heap.size sa n f) := hr
  clear hc hr
  by_cases hb : lf < (n : Int)
  · have h' : lf - (n : Int) < 0 := by omega
    go_enter Try.func71, Try.ntmps71
    go_wp2
    go_ret
    exact ⟨⟨-1, rfl, Or.inl (by omega)⟩, Below.refl _ _⟩
  · have h' : ¬ lf - (n : Int) < 0 := by omega
    go_enter Try.func71, Try.ntmps71
    go_wp2
    go_loopw [1, 5] (fun lv i wr => ∃ (k : Nat) (left : Int), k ≤ n ∧ i = .int .i64 (k : Int) ∧ lv = .int .i64 left ∧ 0 ≤ left ∧ left + (n : Int) ≤ lf ∧ Below w.heap.size w wr ∧ ∀ i, i < k → (f i).c.size ≤ 1048576) (fun _ i _ => n - (intOf i).toNat)
    case atStart => exact ⟨0, _, Nat.zero_le _, rfl, rfl, by omega, by omega, Below.refl _ _, fun i hi => by omega⟩
    case round =>
      obtain ⟨k, left, hk, rfl, rfl, hl0, hl1, hbel, hall⟩ := hrel
      have HB : Hid (Below w.heap.size w wr) := hbel
      have HA : Hid (∀ i, i < k → (f i).c.size ≤ 1048576) := hall
      clear hall
      by_cases hkl : k < n
      · obtain ⟨bb, off, rfl, hbb, hat⟩ := HR.out.at hbel hkl
        obtain ⟨c0, c1, c2⟩ := hat
        have hck := HC.out k hkl
        have HK : Hid ((f k).c.size ≤ maxLen) := hck
        clear hbel hck
        have hki : (k : Int) < (n : Int) := by omega
        have hk0 : (0 : Int) ≤ (k : Int) := by omega
        obtain ⟨a, ha⟩ : ∃ a, f k = a := ⟨_, rfl⟩
        have HF : Hid (f k = a) := ha
        rw [ha] at c0 c1 c2 HK
        clear ha
        by_cases hs : left < (a.c.size : Int)
        · go_wp2_with (go_at_call 102; refine (szAtom_any a left _ HK.out hl0 (by omega)).mono ?_; rintro e w1 ⟨rfl, hb1⟩; rw [if_pos hs]; have HB1 : Hid (Below w.heap.size w w1) := HB.out.trans (hb1.mono HB.out.size); clear hb1)
          go_ret
          exact ⟨⟨-1, rfl, Or.inl (by omega)⟩, HB1.out⟩
        · have hs' : ¬ left - (a.c.size : Int) < 0 := by omega
          go_wp2_with (go_at_call 102; refine (szAtom_any a left _ HK.out hl0 (by omega)).mono ?_; rintro e w1 ⟨rfl, hb1⟩; rw [if_neg hs]; have HB1 : Hid (Below w.heap.size w w1) := HB.out.trans (hb1.mono HB.out.size); clear hb1)
          go_roundw
          case rel => exact ⟨k + 1, _, by omega, by go_num, rfl, by omega, by omega, HB1.out, fun i hi => by
            by_cases e : i = k
            · subst e; rw [HF.out]; omega
            · exact HA.out i (by omega)⟩
          case measure => simp [intOf]; omega
      · have hki : ¬ (k : Int) < (n : Int) := by omega
        clear hbel
        go_wp2
        go_ret
        exact ⟨⟨left, rfl, Or.inr ⟨hl0, hl1, fun i hi => HA.out i (by omega)⟩⟩, HB.out⟩

set_option maxRecDepth 100000 in
set_option maxHeartbeats 2000000 in
theorem markAt_own (g n cap q0 : Nat) (f : Nat → Atm) (w : World) (hn : n ≤ 1048576) (hq0 : 0 < q0) (hq9 : q0 ≤ 4000000) (ho : AOwn w g n f) :
    Calls Try.prog 75 #[.slice (some ⟨g, 0, none⟩) n cap, .int .i64 (q0 : Int)] w fun e w' => e = .returned (.int .i64 ((q0 + n * 3 : Nat) : Int)) ∧ w.grownBy w' (some g) ∧ AOwn w' g n (markQ q0) := by
  have HO : Hid (AOwn w g n f) := ho
  clear ho
  go_enter Try.func75, Try.ntmps75
  go_wp2
  go_loopw [1, 5] (fun kv i wr => ∃ j : Nat, j ≤ n ∧ kv = .int .i64 ((q0 + j * 3 : Nat) : Int) ∧ i = .int .i64 (j : Int) ∧ w.grownBy wr (some g) ∧ AOwn wr g n (fun i => if i < j then markQ q0 i else f i)) (fun _ i _ => n - (intOf i).toNat)
  case atStart => exact ⟨0, Nat.zero_le _, rfl, rfl, World.grownBy.refl _ _, HO.out.congr (fun i _ => by simp)⟩
  case round =>
    obtain ⟨j, hj, rfl, rfl, hgr, hown⟩ := hrel
    have HG : Hid (w.grownBy wr (some g)) := hgr
    have HW : Hid (AOwn wr g n (fun i => if i < j then markQ q0 i else f i)) := hown
    have hsz := hown.lt
    clear hgr hown
    by_cases hjl : j < n
    · have hji : (j : Int) < (n : Int) := by omega
      have hj0 : (0 : Int) ≤ (j : Int) := by omega
      obtain ⟨q, hq⟩ : ∃ q, q0 + j * 3 = q := ⟨_, rfl⟩
      have HQ : Hid (q0 + j * 3 = q) := hq
      have hq1 : 0 < q := by omega
      have hq2 : q ≤ 8000000 := by omega
      rw [hq]
      clear hq
      go_wp2_with fail
      refine (markText_any q _ hq1 (by omega)).mono ?_
      rintro e w1 ⟨rfl, hb1⟩
      have HW1 : Hid (AOwn w1 g n (fun i => if i < j then markQ q0 i else f i)) := HW.out.kept hb1 hsz
      have HG1 : Hid (w.grownBy w1 (some g)) := HG.out.trans (grown_of_below hb1)
      have hsz1 := HW1.out.lt
      obtain ⟨⟨d0, d1, d2⟩, e0, e1, e2⟩ := HW1.out.parts hjl
      clear hb1
      have HM : Hid (markQ q0 j = ⟨mtext q, ((q + 1 : Nat) : Int), ((q + 2 : Nat) : Int)⟩) := by show markQ q0 j = _; unfold markQ; rw [HQ.out]
      generalize mtext q = tq at *
      go_wp2
      go_roundw
      case rel =>
        refine ⟨j + 1, by omega, ?_, by go_num, only_setA (only_setA (only_setA HG1.out)), ?_⟩
        · congr 1
          have := HQ.out
          omega
        · have h1 := HW1.out.set hjl (markQ q0 j)
          rw [HM.out] at h1
          simp only at h1
          rw [show ((q + 1 : Nat) : Int) = (q : Int) + 1 by omega, show ((q + 2 : Nat) : Int) = (q : Int) + 1 + 1 by omega] at h1
          refine h1.congr (fun i hi => ?_)
          by_cases e : i = j
          · subst e
            rw [if_pos rfl, if_pos (by omega), HM.out, show ((q + 1 : Nat) : Int) = (q : Int) + 1 by omega, show ((q + 2 : Nat) : Int) = (q : Int) + 1 + 1 by omega]
          · rw [if_neg e]
            by_cases e2 : i < j
            · rw [if_pos e2, if_pos (by omega)]
            · rw [if_neg e2, if_neg (by omega)]
      case measure => simp [intOf]; omega
    · have hji : ¬ (j : Int) < (n : Int) := by omega
      obtain rfl : j = n := by omega
      go_wp2
      go_ret
      exact ⟨rfl, HG.out, HW.out.congr (fun i hi => if_pos (by omega))⟩
theorem markAt_none (sa : Option Addr) (cap q0 : Nat) (w : World) :
    Calls Try.prog 75 #[.slice sa 0 cap, .int .i64 (q0 : Int)] w fun e w' => e = .returned (.int .i64 (q0 : Int)) ∧ w' = w := by
  go_enter Try.func75, Try.ntmps75
  go_wp2
  go_loopw [1, 5] (fun kv i wr => kv = .int .i64 (q0 : Int) ∧ i = .int .i64 0 ∧ wr = w) (fun _ _ _ => 0)
  case atStart => exact ⟨rfl, rfl, rfl⟩
  case round =>
    obtain ⟨rfl, rfl, rfl⟩ := hrel
    go_wp2
    go_ret
    exact ⟨rfl, rfl⟩
theorem markAt_any (sa : Option Addr) (n cap lo hi q0 : Nat) (f : Nat → Atm) (w : World) (hn : n ≤ 1048576) (hq0 : 0 < q0) (hq9 : q0 ≤ 4000000) (ho : ASl w lo hi sa n f) :
    Calls Try.prog 75 #[.slice sa n cap, .int .i64 (q0 : Int)] w fun e w' => e = .returned (.int .i64 ((q0 + n * 3 : Nat) : Int)) ∧ OnlyA w w' lo hi ∧ ASl w' lo hi sa n (markQ q0) := by
  rcases Nat.eq_zero_or_pos n with rfl | hp
  · refine (markAt_none sa cap q0 w).mono ?_
    rintro e w' ⟨rfl, rfl⟩
    exact ⟨rfl, ⟨none, World.grownBy.refl _ _, fun _ h => by cases h⟩, Or.inl rfl⟩
  · rcases ho with rfl | ⟨g, rfl, hlo, hhi, ho⟩
    · omega
    · refine (markAt_own g n cap q0 f w hn hq0 hq9 ho).mono ?_
      rintro e w' ⟨rfl, hg, ho'⟩
      exact ⟨rfl, ⟨some g, hg, fun g' h => by cases h; exact ⟨hlo, hhi⟩⟩, Or.inr ⟨g, rfl, hlo, hhi, ho'⟩⟩

end Go.Proofs.Ytfeolbgenpknfaa
