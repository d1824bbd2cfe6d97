/- What is proved here: how many words so many bits want, as the specification says it; the world stays.
   What is proved here: the specification's l02New hands back so many bits, none of them on, in new memory; nothing that was there turns.
   What is proved here: the specification's l02Set turns one bit of the words that it is handed; nothing else that was there turns. -/
import Derived.Test.YtbdjjggaahjjpaaQVecS
import Derived.Test.YtbdjjggaahjjpaaQWordsForWToNewW
import Derived.Test.YtbdjjggaahjjpaaQGetBWToSetM
import Derived.BigRegion
namespace Go.Proofs.Ytbdjjggaahjjpaa
open Go.RowKit

theorem words_any (b : Int) (w : World) (h0 : 0 ≤ b) (h1 : b ≤ 320) :
    Calls Try.prog 79 #[.int .i64 b] w fun e w' => e = .returned (.int .i64 ((b + 31) / 32)) ∧ w' = w := by
  go_enter Try.func79, Try.ntmps79
  go_wp2
  go_ret
  exact ⟨rfl, rfl⟩
end Go.Proofs.Ytbdjjggaahjjpaa
namespace Go.Proofs.Ytbdjjggaahjjpaa
open Go.RowKit

set_option maxHeartbeats 1000000 in
theorem l02New_any (b : Int) (m : Nat) (w : World) (h0 : 1 ≤ b) (h1 : b ≤ 320) (hm : (m : Int) = (b + 31) / 32) :
    Calls Try.prog 50 #[.int .i64 b] w fun e w' => NewVec w b m (fun _ => 0) e w' := by
  have HM : Hid ((m : Int) = (b + 31) / 32) := hm
  have hm1 : m ≤ 10 := by omega
  clear hm
  go_enter Try.func50, Try.ntmps50
  go_wp2_with fail
  refine (words_any b _ (by omega) h1).mono ?_
  rintro e w1 ⟨rfl, hw⟩
  subst hw
  rw [← HM.out]
  have q3 := boxing w 36 0 none 0 0
  generalize w.alloc (.cells #[.int .i64 0, .slice none 0 0] 36) = v at *
  obtain ⟨u, g, hmk, hg1, hg2, hbu, hown⟩ := make_new v m (by omega)
  have HO : Hid (Own u g m (fun _ => 0)) := hown
  have S : Hid (Since w u) := since_call (since_call (since_refl _) q3.1) hbu
  obtain ⟨cb0, cb1, cb2, cb3⟩ := (q3.2.1.kept hbu rfl).four
  have l1 : w.heap.size < g := by have := q3.2.2; omega
  have l2 : w.heap.size < u.heap.size := by omega
  clear q3 hown hbu hg1
  go_wp2
  refine bodyPost_ret (v := vecV b (some ⟨g, 0, none⟩) m m) (by simp [results, Try.results50, go_sem, vecV, cb0, cb1]) rfl ?_
  exact ⟨_, _, rfl, (since_set (since_set S.out (by show w.heap.size ≤ w.heap.size; omega)) (by show w.heap.size ≤ w.heap.size; omega)).below, Or.inr ⟨_, rfl, by omega, (HO.out.setOther _ _ (by show w.heap.size ≠ g; omega)).setOther _ _ (by show w.heap.size ≠ g; omega)⟩⟩
end Go.Proofs.Ytbdjjggaahjjpaa
namespace Go.Proofs.Ytbdjjggaahjjpaa
open Go.RowKit

theorem grown_setNew2 {w W : World} {row : Option Nat} {p : Addr} {v : Value} (h : w.grownBy W row) (hp : w.heap.size ≤ p.block) : w.grownBy (W.setCell p v) row :=
  ⟨h.os, h.tape, h.output, by simpa [World.setCell] using h.size, fun k hk hr => by rw [Below.heap_setCell _ _ _ _ (fun e => by omega)]; exact h.block k hk hr⟩
theorem grown_below2 {w W W' : World} {row : Option Nat} (h : w.grownBy W row) (hb : Below W.heap.size W W') : w.grownBy W' row :=
  ⟨by rw [hb.os]; exact h.os, by rw [hb.tape]; exact h.tape, by rw [hb.output]; exact h.output, Nat.le_trans h.size hb.size, fun k hk hr => by rw [hb.block k (Nat.lt_of_lt_of_le hk h.size)]; exact h.block k hk hr⟩
set_option maxRecDepth 100000 in
set_option maxHeartbeats 4000000 in
theorem l02Set_any (b : Int) (g n cap k q : Nat) (f : Nat → Int) (i : Int) (on : Bool) (w : World) (hn : n ≤ 1048576) (ho : Own w g n f) (h0 : 0 ≤ i) (h1 : i / 32 = (k : Int)) (h2 : i % 32 = (q : Int)) (hk : k < n) (hq : q < 32) :
    Calls Try.prog 80 #[.agg #[.int .i64 b, .slice (some ⟨g, 0, none⟩) n cap], .int .i64 i, .bool on] w fun e w' => e = .returned (.tuple #[]) ∧ w.grownBy w' (some g) ∧ Own w' g n (setF f k q on) := by
  have hglt := ho.1
  have HO : Hid (Own w g n f) := ho
  have HK : Hid (i / 32 = (k : Int) ∧ i % 32 = (q : Int)) := ⟨h1, h2⟩
  clear ho h1 h2
  by_cases hg : getB (f k) q = on
  · have e1 : ∀ i, i < n → f i = setF f k q on i := by
      intro j _
      by_cases e : j = k
      · subst e; simp [setF, hg]
      · simp [setF, e]
    have HE : Hid (∀ i, i < n → f i = setF f k q on i) := e1
    clear e1
    have C1 := fun W h => l02Get_any b (some ⟨g, 0, none⟩) n cap k q f i W hn h h0 HK.out.1 HK.out.2 hk
    rw [hg] at C1
    have R1 : Hid (∀ W, Row W W.heap.size (some ⟨g, 0, none⟩) n f → Calls Try.prog 81 #[.agg #[.int .i64 b, .slice (some ⟨g, 0, none⟩) n cap], .int .i64 i] W fun e w' => e = .returned (.bool on) ∧ Below W.heap.size W w') := C1
    clear C1 hg
    go_enter Try.func80, Try.ntmps80
    go_wp2_with fail
    have q1 := boxing w 36 b (some ⟨g, 0, none⟩) n cap
    have G1 : w.grownBy (w.alloc (.cells #[.int .i64 b, .slice (some ⟨g, 0, none⟩) n cap] 36)) (some g) := World.grownBy_alloc w _ _
    generalize w.alloc (.cells #[.int .i64 b, .slice (some ⟨g, 0, none⟩) n cap] 36) = v1 at *
    have O1 := HO.out.kept q1.1 hglt
    refine (R1.out _ (O1.row (by rw [q1.2.2]; omega))).mono ?_
    rintro e w4 ⟨rfl, hb4⟩
    have G4 : Hid (w.grownBy w4 (some g)) := grown_below2 G1 hb4
    have O4 : Hid (Own w4 g n f) := O1.kept hb4 O1.1
    clear q1 G1 O1 hb4
    go_wp2
    go_end0
    exact ⟨rfl, G4.out, O4.out.congr HE.out⟩
  · have e1 : ∀ i, i < n → (if i = k then bits .xor .i64 (f k) (2 ^ q) else f i) = setF f k q on i := by
      intro j _
      by_cases e : j = k
      · subst e; simp [setF, hg]
      · simp [setF, e]
    have HE : Hid (∀ i, i < n → (if i = k then bits .xor .i64 (f k) (2 ^ q) else f i) = setF f k q on i) := e1
    have ht : getB (f k) q = !on := by cases h : getB (f k) q <;> cases on <;> simp_all
    have eb : (!((!on) == on)) = true := by cases on <;> rfl
    clear e1 hg
    have C1 := fun W h => l02Get_any b (some ⟨g, 0, none⟩) n cap k q f i W hn h h0 HK.out.1 HK.out.2 hk
    rw [ht] at C1
    have R1 : Hid (∀ W, Row W W.heap.size (some ⟨g, 0, none⟩) n f → Calls Try.prog 81 #[.agg #[.int .i64 b, .slice (some ⟨g, 0, none⟩) n cap], .int .i64 i] W fun e w' => e = .returned (.bool (!on)) ∧ Below W.heap.size W w') := C1
    clear C1 ht
    obtain ⟨P, hP, hP0, hP1⟩ := pow_bit q hq
    rw [hP] at HE
    have hw : wrap64 P = P := by unfold wrap64; omega
    have hwi : IntKind.i64.wrap P = P := by rw [IntKind.wrap_i64]; omega
    go_enter Try.func80, Try.ntmps80
    go_wp2_with fail
    have q1 := boxing w 36 b (some ⟨g, 0, none⟩) n cap
    have G1 : w.grownBy (w.alloc (.cells #[.int .i64 b, .slice (some ⟨g, 0, none⟩) n cap] 36)) (some g) := World.grownBy_alloc w _ _
    generalize w.alloc (.cells #[.int .i64 b, .slice (some ⟨g, 0, none⟩) n cap] 36) = v1 at *
    have O1 := HO.out.kept q1.1 hglt
    refine (R1.out _ (O1.row (by rw [q1.2.2]; omega))).mono ?_
    rintro e w4 ⟨rfl, hb4⟩
    have G4 : Hid (w.grownBy w4 (some g)) := grown_below2 G1 hb4
    have O4 : Hid (Own w4 g n f) := O1.kept hb4 O1.1
    have X4 := q1.2.1.kept hb4 rfl
    obtain ⟨ca0, ca1⟩ := X4.cells
    have l1 := X4.lt
    have cy := O4.out.2.1 k hk
    have cf := O4.out.2.2 k hk
    have lg := O4.out.1
    have hki : (k : Int) < (n : Int) := by omega
    have hk0 : (0 : Int) ≤ (k : Int) := by omega
    have hq0 : (0 : Int) ≤ (q : Int) := by omega
    have hq1 : (q : Int) < 32 := by omega
    obtain ⟨e1, e2⟩ := HK.out
    clear q1 G1 O1 hb4 X4
    go_wp2
    go_region
    all_goals
      go_wp2
      go_end0
      exact ⟨rfl, only_drawn (only_set G4.out), ((O4.out.set hk _).congr HE.out).drew⟩
end Go.Proofs.Ytbdjjggaahjjpaa
