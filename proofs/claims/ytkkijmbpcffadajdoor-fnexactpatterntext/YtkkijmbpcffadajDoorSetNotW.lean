/- What is proved here: the program's setBySet with the closure of ClassNot, and ClassNot itself: of right classes the class of what is put together number by number, else nothing; nothing that was there turns. -/
import Derived.Test.YtkkijmbpcffadajDoorSetOfW
import Derived.Test.YtkkijmbpcffadajDoorClassW
import Derived.Deep.RegionHeld3
namespace Go.Proofs.YtkkijmbpcffadajDoor
open Go.RowKit

theorem putNot64_any (x y : Int) (w : World) :
    Calls Tryd.prog 61 #[.int .u64 x, .int .u64 y] w fun e w' => e = .returned (.int .u64 (bits .xor .u64 IntKind.u64.max x)) ∧ w' = w := by
  go_enter Tryd.func61, Tryd.ntmps61
  go_wp2
  go_ret
  exact ⟨rfl, rfl⟩
/-- The numbers that are put together so far. -/
def putNotTo (f _g : Nat → Nat) (k : Nat) : Nat → Nat := fun j => if j < k then f j ^^^ 18446744073709551615 else 0
theorem putNotTo_set {f g : Nat → Nat} (hf : Set4 f) (hg : Set4 g) (k : Nat) : Set4 (putNotTo f g k) := fun j => by
  have _ := hg j
  unfold putNotTo
  split
  · exact xor_lt64 (hf j)
  · decide
theorem putNotTo_zero (f g : Nat → Nat) : putNotTo f g 0 = fun _ => 0 := by funext j; simp [putNotTo]
theorem putNotTo_bits {f g : Nat → Nat} (hf : Set4 f) (hg : Set4 g) (j : Nat) : bits .xor .u64 IntKind.u64.max (f j : Nat) = ((f j ^^^ 18446744073709551615 : Nat) : Int) := by
  have _ := hg j
  exact not64 (hf j)
theorem putNotTo_in (f g : Nat → Nat) (i : Nat) (h : i < 256) : inSet (putNotTo f g 4) i = inSet (fun j => f j ^^^ 18446744073709551615) i := by
  have h4 : i / 64 < 4 := by omega
  simp [inSet, putNotTo, h4]
theorem putNotTo_step {W : World} {p k : Nat} {f g : Nat → Nat} (hk : k < 4) (h : Box4 W p (putNotTo f g k)) : Box4 (W.setCell ⟨p, k, none⟩ (.int .u64 ((f k ^^^ 18446744073709551615 : Nat) : Int))) p (putNotTo f g (k + 1)) := by
  have h1 := h.one hk (f k ^^^ 18446744073709551615)
  have e : (fun i => if i = k then f k ^^^ 18446744073709551615 else putNotTo f g k i) = putNotTo f g (k + 1) := by
    funext i
    unfold putNotTo
    by_cases e1 : i = k
    · subst e1; simp
    · by_cases e2 : i < k
      · have e3 : i < k + 1 := by omega
        simp [e1, e2, e3]
      · have e3 : ¬ i < k + 1 := by omega
        simp [e1, e2, e3]
  rw [e] at h1
  exact h1

set_option maxRecDepth 100000 in
set_option maxHeartbeats 4000000 in
theorem setNot_yes (a b : ByteArray) (w : World) (ha : a.size ≤ maxLen) (hb : b.size ≤ maxLen) (h1 : RightC a) (h2 : RightC b) (hT : Tab64 w) (hp0 : 1 < w.heap.size) :
    Calls Tryd.prog 60 #[.string a, .string b, .func (.func 61) #[] #[]] w fun e w' => e = .returned (.string (classT (fun i => !hasByte a i))) ∧ Below w.heap.size w w' := by
  have R1 : Hid (RightC a) := h1
  have R2 : Hid (RightC b) := h2
  have HT : Hid (Tab64 w) := hT
  have F4 : Hid (Set4 (setOf a)) := setOf_set a
  have G4 : Hid (Set4 (setOf b)) := setOf_set b
  have SB : Hid (b.size ≤ maxLen) := hb
  clear h1 h2 hT hb
  go_enter Tryd.func60, Tryd.ntmps60
  go_wp2_with fail
  refine (setOfClass_any a _ ha).mono ?_
  rintro e w1 ⟨hb1, h⟩
  obtain ⟨_, rfl⟩ : RightC a ∧ e = .returned (.tuple #[setV (setOf a), .bool true]) := by
    rcases h with h | h
    · exact h
    · exact absurd R1.out h.1
  have B1 : Hid (Below w.heap.size w w1) := hb1
  clear hb1 ha
  have X1 : Hid (∀ f : Nat → Nat, f = setOf a → Box4 (w1.alloc (.cells #[.int .u64 (f 0 : Nat), .int .u64 (f 1 : Nat), .int .u64 (f 2 : Nat), .int .u64 (f 3 : Nat)] 91)) w1.heap.size f) := fun f _ => Box4.new w1 f
  generalize hF : setOf a = F at *
  have HF : Hid (setOf a = F) := hF
  clear hF
  unfold setV
  go_wp2_with fail
  generalize hv : w1.alloc (.cells #[.int .u64 (F 0 : Nat), .int .u64 (F 1 : Nat), .int .u64 (F 2 : Nat), .int .u64 (F 3 : Nat)] 91) = v1
  have Y1 : Hid (Box4 v1 w1.heap.size F) := by rw [← hv]; exact Box4.new w1 F
  have V1 : Hid (Below w.heap.size w v1) := by rw [← hv]; exact B1.out.alloc B1.out.size _
  clear hv X1
  have q1 : w1.heap.size < v1.heap.size := Y1.out.lt
  have q1' : w.heap.size ≤ w1.heap.size := B1.out.size
  generalize w1.heap.size = p7 at *
  clear B1 w1
  refine (setOfClass_any b _ SB.out).mono ?_
  rintro e w2 ⟨hb2, h⟩
  obtain ⟨_, rfl⟩ : RightC b ∧ e = .returned (.tuple #[setV (setOf b), .bool true]) := by
    rcases h with h | h
    · exact h
    · exact absurd R2.out h.1
  have B2 : Hid (Below w.heap.size w w2) := V1.out.trans (hb2.mono V1.out.size)
  have Y2 : Hid (Box4 w2 p7 F) := Y1.out.kept hb2 q1
  have q2 : p7 < w2.heap.size := Y2.out.lt
  have q2' : w.heap.size ≤ w2.heap.size := B2.out.size
  clear hb2 SB h
  generalize hG : setOf b = G at *
  have HG : Hid (setOf b = G) := hG
  clear hG
  unfold setV
  go_wp2
  generalize hv2 : (w2.alloc (.cells #[.int .u64 (G 0 : Nat), .int .u64 (G 1 : Nat), .int .u64 (G 2 : Nat), .int .u64 (G 3 : Nat)] 91)).alloc (.cells #[.int .u64 0, .int .u64 0, .int .u64 0, .int .u64 0] 91) = v2
  have Z1 : Hid (Box4 v2 p7 F) := by rw [← hv2]; exact (Y2.out.alloc _).alloc _
  have Z2 : Hid (Box4 v2 w2.heap.size G) := by rw [← hv2]; exact (Box4.new w2 G).alloc _
  have Z3 : Hid (Box4 v2 (w2.heap.size + 1) (fun _ => 0)) := by
    show Box4 v2 (w2.heap.size + 1) (fun _ => 0)
    rw [← hv2]
    have := Box4.new (w2.alloc (.cells #[.int .u64 (G 0 : Nat), .int .u64 (G 1 : Nat), .int .u64 (G 2 : Nat), .int .u64 (G 3 : Nat)] 91)) (fun _ => 0)
    simpa using this
  have V2 : Hid (Below w.heap.size w v2) := by rw [← hv2]; exact (B2.out.alloc B2.out.size _).alloc (by simp; have := B2.out.size; omega) _
  clear hv2
  generalize w2.heap.size = p9 at *
  clear B2 Y2 w2
  go_loopw [29] (fun i wr => ∃ k : Nat, k ≤ 4 ∧ i = .int .i64 (k : Int) ∧ Below w.heap.size w wr ∧ Box4 wr p7 F ∧ Box4 wr p9 G ∧ Box4 wr (p9 + 1) (putNotTo F G k)) (fun i _ => 4 - (intOf i).toNat)
  case atStart => exact ⟨0, by omega, rfl, V2.out, Z1.out, Z2.out, by rw [putNotTo_zero]; exact Z3.out⟩
  case round =>
    obtain ⟨k, hk, rfl, hbel, hA, hB, hC⟩ := hrel
    have HW : Hid (Below w.heap.size w wr) := hbel
    have HA : Hid (Box4 wr p7 F) := hA
    have HB : Hid (Box4 wr p9 G) := hB
    have HC : Hid (Box4 wr (p9 + 1) (putNotTo F G k)) := hC
    by_cases hlt : k < 4
    · have hlt' : (k : Int) < 4 := by omega
      have hk0 : (0 : Int) ≤ (k : Int) := by omega
      have ck : wr.cell? ⟨p7, k, none⟩ = some (.int .u64 (F k : Nat)) := hA.at hlt
      have dk : wr.cell? ⟨p9, k, none⟩ = some (.int .u64 (G k : Nat)) := hB.at hlt
      have ek : wr.cell? ⟨p9 + 1, k, none⟩ = some (.int .u64 (putNotTo F G k k : Nat)) := hC.at hlt
      have fk : wr.frozen? ⟨p9 + 1, k, none⟩ = false := hC.frozenAt k
      have HQ : Hid (bits .xor .u64 IntKind.u64.max (F k : Nat) = ((F k ^^^ 18446744073709551615 : Nat) : Int)) := putNotTo_bits F4.out G4.out k
      have n1 : p9 + 1 ≠ p7 := by omega
      have n2 : p9 + 1 ≠ p9 := by omega
      clear hbel hA hB hC
      go_wp2
      go_region_held3 (fun W => W.cell? ⟨p7, k, none⟩ = some (.int .u64 (F k : Nat)) ∧ W.cell? ⟨p9, k, none⟩ = some (.int .u64 (G k : Nat))) (go_keep) (first | (go_at_call 61; refine (putNot64_any _ _ _).mono ?_; rintro e w' ⟨rfl, rfl⟩; rw [HQ.out]))
      all_goals
        go_wp2
        go_roundw
        case rel => exact ⟨k + 1, by omega, by go_num, (HW.out.setCell (by show w.heap.size ≤ p9 + 1; omega) _).drew, HA.out.other _ _ n1, HB.out.other _ _ n2, putNotTo_step hlt HC.out⟩
        case measure => simp [intOf]; omega
    · have hge : ¬ (k : Int) < 4 := by omega
      obtain rfl : k = 4 := by omega
      obtain ⟨r0, r1, r2, r3⟩ := hC.cells
      have hlt := hC.lt
      clear hbel hA hB hC
      go_wp2_with fail
      refine (class_any (putNotTo F G 4) wr (putNotTo_set F4.out G4.out 4) (HT.out.kept HW.out hp0) (by omega)).mono ?_
      rintro e w3 ⟨rfl, hb3⟩
      have B3 : Hid (Below w.heap.size w w3) := HW.out.trans (hb3.mono HW.out.size)
      clear hb3
      go_wp2
      go_ret
      refine ⟨?_, B3.out⟩
      show Ending.returned (.string (classT (inSet (putNotTo F G 4)))) = _
      rw [classT_congr (g := fun i => !hasByte a i) (fun i hi => ?_)]
      rw [putNotTo_in F G i hi, inSet_not, ← HF.out, inSet_of]

set_option maxRecDepth 100000 in
set_option maxHeartbeats 2000000 in
theorem setNot_no (a b : ByteArray) (w : World) (ha : a.size ≤ maxLen) (hb : b.size ≤ maxLen) (hn : ¬ (RightC a ∧ RightC b)) :
    Calls Tryd.prog 60 #[.string a, .string b, .func (.func 61) #[] #[]] w fun e w' => e = .returned (.string ⟨#[]⟩) ∧ Below w.heap.size w w' := by
  have HN : Hid (¬ (RightC a ∧ RightC b)) := hn
  have SB : Hid (b.size ≤ maxLen) := hb
  clear hn hb
  go_enter Tryd.func60, Tryd.ntmps60
  go_wp2_with fail
  refine (setOfClass_any a _ ha).mono ?_
  rintro e w1 ⟨hb1, h⟩
  have B1 : Hid (Below w.heap.size w w1) := hb1
  clear hb1 ha
  rcases h with ⟨hr, rfl⟩ | ⟨hr, rfl⟩
  · have RA : Hid (RightC a) := hr
    clear hr
    unfold setV
    go_wp2_with fail
    refine (setOfClass_any b _ SB.out).mono ?_
    rintro e w2 ⟨hb2, h⟩
    obtain ⟨_, rfl⟩ : ¬ RightC b ∧ e = .returned (.tuple #[setV (fun _ => 0), .bool false]) := by
      rcases h with h | h
      · exact absurd ⟨RA.out, h.1⟩ HN.out
      · exact h
    have B2 : Hid (Below w.heap.size w w2) := (B1.out.alloc B1.out.size _).trans (hb2.mono (by simp; have := B1.out.size; omega))
    clear hb2 h
    unfold setV
    go_wp2
    go_ret
    exact ⟨rfl, B2.out.alloc B2.out.size _⟩
  · clear hr
    unfold setV
    go_wp2_with fail
    refine (setOfClass_any b _ SB.out).mono ?_
    rintro e w2 ⟨hb2, h⟩
    have B2 : Hid (Below w.heap.size w w2) := (B1.out.alloc B1.out.size _).trans (hb2.mono (by simp; have := B1.out.size; omega))
    clear hb2
    rcases h with ⟨hr, rfl⟩ | ⟨hr, rfl⟩
    · clear hr
      unfold setV
      go_wp2
      go_ret
      exact ⟨rfl, B2.out.alloc B2.out.size _⟩
    · clear hr
      unfold setV
      go_wp2
      go_ret
      exact ⟨rfl, B2.out.alloc B2.out.size _⟩

theorem implCNot_yes (a : ByteArray) (w : World) (ha : a.size ≤ maxLen) (h1 : RightC a) (hT : Tab64 w) (hp0 : 1 < w.heap.size) :
    Calls Tryd.prog 44 #[.string a] w fun e w' => e = .returned (.string (classT (fun i => !hasByte a i))) ∧ Below w.heap.size w w' := by
  have C := setNot_yes a a w ha ha h1 h1 hT hp0
  have H : Hid (Calls Tryd.prog 60 #[.string a, .string a, .func (.func 61) #[] #[]] w fun e w' => e = .returned (.string (classT (fun i => !hasByte a i))) ∧ Below w.heap.size w w') := C
  clear C hT ha h1
  go_enter Tryd.func44, Tryd.ntmps44
  go_wp2_with fail
  refine H.out.mono ?_
  rintro e w1 ⟨rfl, hb1⟩
  have B1 : Hid (Below w.heap.size w w1) := hb1
  clear hb1 H
  go_wp2
  go_ret
  exact ⟨rfl, B1.out⟩
theorem implCNot_no (a : ByteArray) (w : World) (ha : a.size ≤ maxLen) (hn : ¬ RightC a) :
    Calls Tryd.prog 44 #[.string a] w fun e w' => e = .returned (.string ⟨#[]⟩) ∧ Below w.heap.size w w' := by
  have C := setNot_no a a w ha ha (fun h => hn h.1)
  have H : Hid (Calls Tryd.prog 60 #[.string a, .string a, .func (.func 61) #[] #[]] w fun e w' => e = .returned (.string ⟨#[]⟩) ∧ Below w.heap.size w w') := C
  clear C ha hn
  go_enter Tryd.func44, Tryd.ntmps44
  go_wp2_with fail
  refine H.out.mono ?_
  rintro e w1 ⟨rfl, hb1⟩
  have B1 : Hid (Below w.heap.size w w1) := hb1
  clear hb1 H
  go_wp2
  go_ret
  exact ⟨rfl, B1.out⟩
end Go.Proofs.YtkkijmbpcffadajDoor
