/- What is proved here: impl.readText and impl.GetText hand back what textOf tells. Its condition: the variable errors.errorType holds what the program's text lays there. -/
import Derived.Test.YtpdedggnjcnpgaaDoorNumW
import Derived.Test.YtpdedggnjcnpgaaDoorJoinW
import Derived.WideLaws
namespace Go.Proofs.YtpdedggnjcnpgaaDoor
open Go.RowKit

/-- What GetText tells: the text, the place behind it, the code. -/
def textOf (s : ByteArray) (a : Int) : ByteArray × Int × Int :=
  if (numOf s a).2.2 ≠ 0 then (⟨#[]⟩, 0, (numOf s a).2.2)
  else if (numOf s a).1 < 0 ∨ 8000 < (numOf s a).1 then (⟨#[]⟩, 0, 3)
  else if (s.size : Int) - (numOf s a).2.1 < (numOf s a).1 then (⟨#[]⟩, 0, 4)
  else (s.extract (numOf s a).2.1.toNat ((numOf s a).2.1.toNat + (numOf s a).1.toNat), (numOf s a).2.1 + (numOf s a).1, 0)

theorem app_none (a : ByteArray) : a ++ (⟨#[]⟩ : ByteArray) = a := by
  apply ByteArray.ext
  simp

theorem ret_text {t u : ByteArray} {x y : Int} {v z : Value} (h1 : t = u) (h2 : x = y) (h3 : v = z) : Ending.returned (.tuple #[.string t, .int .i64 x, v]) = .returned (.tuple #[.string u, .int .i64 y, z]) := by rw [h1, h2, h3]
/-- readText, its number read: the four ways. -/
def readTo (s : ByteArray) (x y c : Int) : ByteArray × Int × Int :=
  if c ≠ 0 then (⟨#[]⟩, 0, c) else if x < 0 ∨ 8000 < x then (⟨#[]⟩, 0, 3) else if (s.size : Int) - y < x then (⟨#[]⟩, 0, 4) else (s.extract y.toNat (y.toNat + x.toNat), y + x, 0)
theorem textOf_eq (s : ByteArray) (a x y c : Int) (h : numOf s a = (x, y, c)) : textOf s a = readTo s x y c := by
  unfold textOf readTo
  rw [h]

set_option maxHeartbeats 1000000 in
theorem readText_any (s : ByteArray) (a : Int) (w : World) (hs : s.size ≤ maxLen) :
    Calls Tryd.prog 22 #[.string s, .int .i64 a] w fun e w' => e = .returned (.tuple #[.string (textOf s a).1, .int .i64 (textOf s a).2.1, errOf (textOf s a).2.2]) ∧ Below w.heap.size w w' := by
  have hcr := readNum_any s a w hs
  have hfine := numOf_fine s a
  obtain ⟨x, y, c, hn⟩ : ∃ x y c, numOf s a = (x, y, c) := ⟨_, _, _, rfl⟩
  have ht := textOf_eq s a x y c hn
  rw [hn] at hcr hfine
  rw [ht]
  clear ht hn
  have H1 : Hid (Calls Tryd.prog 16 #[.string s, .int .i64 a] w fun e w' => e = .returned (.tuple #[.int .i64 x, .int .i64 y, errOf c]) ∧ w' = w) := hcr
  clear hcr
  rcases hfine with ⟨hc, _, _⟩ | ⟨hc, h8, hy0, hy1, hx0, hx1⟩
  · have hc' : c ≠ 0 := hc
    have hr : readTo s x y c = (⟨#[]⟩, 0, c) := by unfold readTo; rw [if_pos hc']
    rw [hr]
    have he := errOf_ne hc'
    have H2 : Hid (Calls Tryd.prog 16 #[.string s, .int .i64 a] w fun e w' => e = .returned (.tuple #[.int .i64 x, .int .i64 y, .iface 53 (.agg #[.int .i64 c])]) ∧ w' = w) := by rw [← he]; exact H1.out
    have HE : Hid (errOf c = .iface 53 (.agg #[.int .i64 c])) := he
    clear hc hc' he hr H1
    go_enter Tryd.func22, Tryd.ntmps22
    go_wp2_with fail
    refine H2.out.mono ?_
    rintro e w ⟨rfl, rfl⟩
    go_wp2
    go_ret3
    exact ⟨ret_text rfl rfl HE.out.symm, Below.refl _ _⟩
  · have hc' : c = 0 := hc
    subst hc'
    have hy0' : 0 ≤ y := hy0
    have hy1' : y ≤ (s.size : Int) := hy1
    have hx0' : -9223372036854775808 ≤ x := hx0
    have hx1' : x ≤ 9223372036854775807 := hx1
    have H2 : Hid (Calls Tryd.prog 16 #[.string s, .int .i64 a] w fun e w' => e = .returned (.tuple #[.int .i64 x, .int .i64 y, .nilIface]) ∧ w' = w) := H1.out
    clear hc hy0 hy1 hx0 hx1 H1
    by_cases hx : x < 0
    · have hr : readTo s x y 0 = (⟨#[]⟩, 0, 3) := by unfold readTo; rw [if_neg (by decide), if_pos (Or.inl hx)]
      rw [hr]
      clear hr
      go_enter Tryd.func22, Tryd.ntmps22
      go_wp2_with fail
      refine H2.out.mono ?_
      rintro e w ⟨rfl, rfl⟩
      go_wp2
      go_ret3
      exact ⟨rfl, Below.refl _ _⟩
    · by_cases hxb : 8000 < x
      · have hr : readTo s x y 0 = (⟨#[]⟩, 0, 3) := by unfold readTo; rw [if_neg (by decide), if_pos (Or.inr hxb)]
        rw [hr]
        clear hr
        go_enter Tryd.func22, Tryd.ntmps22
        go_wp2_with fail
        refine H2.out.mono ?_
        rintro e w ⟨rfl, rfl⟩
        go_wp2
        go_ret3
        exact ⟨rfl, Below.refl _ _⟩
      · by_cases hsh : (s.size : Int) - y < x
        · have hr : readTo s x y 0 = (⟨#[]⟩, 0, 4) := by unfold readTo; rw [if_neg (by decide), if_neg (by omega), if_pos hsh]
          rw [hr]
          clear hr
          go_enter Tryd.func22, Tryd.ntmps22
          go_wp2_with fail
          refine H2.out.mono ?_
          rintro e w ⟨rfl, rfl⟩
          go_wp2
          go_ret3
          exact ⟨rfl, Below.refl _ _⟩
        · obtain ⟨yn, rfl⟩ := Int.eq_ofNat_of_zero_le hy0'
          obtain ⟨xn, rfl⟩ := Int.eq_ofNat_of_zero_le (show 0 ≤ x by omega)
          have hr : readTo s (xn : Int) (yn : Int) 0 = (s.extract yn (yn + xn), (yn : Int) + xn, 0) := by unfold readTo; rw [if_neg (by decide), if_neg (by omega), if_neg hsh]; rfl
          rw [hr]
          clear hr
          have hsz : (s.extract yn (yn + xn)).size ≤ 8000 := by rw [ByteArray.size_extract]; omega
          go_enter Tryd.func22, Tryd.ntmps22
          go_wp2_with fail
          refine H2.out.mono ?_
          rintro e w ⟨rfl, rfl⟩
          have hsl : ∀ w : World, (Instr.slice 9 (.string s) (some (.int .i64 (yn : Int))) (some (.int .i64 ((yn : Int) + (xn : Int)))) none).run Tryd.prog w = .ok (.string (s.extract yn (yn + xn))) w := fun w => by
            have h := run_slice_string w 9 s .i64 .i64 (yn : Int) ((yn : Int) + (xn : Int)) Tryd.underlying9 (by omega) (by omega) (by omega)
            rw [h, show ((yn : Int) + (xn : Int)).toNat = yn + xn from by omega, Int.toNat_natCast]
          have hj : (s.extract yn (yn + xn)).size + (⟨#[]⟩ : ByteArray).size ≤ 100000000 := by
            have e : (⟨#[]⟩ : ByteArray).size = 0 := rfl
            omega
          go_wp2_with fail
          refine (joined_any _ ⟨#[]⟩ _ hj).mono ?_
          rintro e w2 ⟨rfl, hb⟩
          have HB : Hid (Below w.heap.size w w2) := hb
          clear hb hj
          rw [app_none]
          go_wp2
          go_ret3
          exact ⟨rfl, HB.out⟩

/-- A TextOut. -/
def textOut (r : ByteArray × Int × Int) : Value := .agg #[.string r.1, .int .i64 r.2.1, .int .i64 r.2.2]
theorem textOf_fine (s : ByteArray) (a : Int) : (textOf s a).2.2 ≠ 0 → (textOf s a).1 = ⟨#[]⟩ ∧ (textOf s a).2.1 = 0 := by
  intro h
  unfold textOf at h ⊢
  split
  · exact ⟨rfl, rfl⟩
  · rename_i h1
    rw [if_neg h1] at h
    split
    · exact ⟨rfl, rfl⟩
    · rename_i h2
      rw [if_neg h2] at h
      split
      · exact ⟨rfl, rfl⟩
      · rename_i h3
        rw [if_neg h3] at h
        exact absurd rfl h

set_option maxHeartbeats 1000000 in
theorem implGetText (s : ByteArray) (a : Int) (w : World) (hs : s.size ≤ maxLen) (hg : w.cell? ⟨0, 0, none⟩ = some (.iface 74 (.agg #[.pointer (some ⟨1, 41, none⟩)]))) :
    Calls Tryd.prog 11 #[.string s, .int .i64 a] w fun e w' => e = .returned (textOut (textOf s a)) ∧ Below w.heap.size w w' := by
  have hz := textOf_fine s a
  have hcr := readText_any s a (w.alloc (.cells #[.string ⟨#[]⟩, .int .i64 0, .int .i64 0] 31)) hs
  generalize textOf s a = r at *
  obtain ⟨t, y, c⟩ := r
  have hlt : 0 < w.heap.size := by
    rcases Nat.eq_zero_or_pos w.heap.size with h0 | h
    · simp [World.cell?, h0] at hg
    · exact h
  have hgA : (w.alloc (.cells #[.string ⟨#[]⟩, .int .i64 0, .int .i64 0] 31)).cell? ⟨0, 0, none⟩ = some (.iface 74 (.agg #[.pointer (some ⟨1, 41, none⟩)])) := by
    rw [World.cell?_alloc_lt _ _ ⟨0, 0, none⟩ hlt]; exact hg
  have H1 : Hid (Calls Tryd.prog 22 #[.string s, .int .i64 a] (w.alloc (.cells #[.string ⟨#[]⟩, .int .i64 0, .int .i64 0] 31)) fun e w' => e = .returned (.tuple #[.string t, .int .i64 y, errOf c]) ∧ Below (w.alloc (.cells #[.string ⟨#[]⟩, .int .i64 0, .int .i64 0] 31)).heap.size (w.alloc (.cells #[.string ⟨#[]⟩, .int .i64 0, .int .i64 0] 31)) w') := hcr
  clear hcr
  have HG : Hid ((w.alloc (.cells #[.string ⟨#[]⟩, .int .i64 0, .int .i64 0] 31)).cell? ⟨0, 0, none⟩ = some (.iface 74 (.agg #[.pointer (some ⟨1, 41, none⟩)]))) := hgA
  clear hgA hg
  have HZ : Hid (c ≠ 0 → t = ⟨#[]⟩ ∧ y = 0) := hz
  clear hz
  by_cases hc : c = 0
  · subst hc
    go_enter Tryd.func11, Tryd.ntmps11
    go_wp2_with fail
    refine H1.out.mono ?_
    rintro e w1 ⟨rfl, hb1⟩
    have HB1 : Hid (Below (w.alloc (.cells #[.string ⟨#[]⟩, .int .i64 0, .int .i64 0] 31)).heap.size (w.alloc (.cells #[.string ⟨#[]⟩, .int .i64 0, .int .i64 0] 31)) w1) := hb1
    clear hb1
    go_wp2_with fail
    have hg1 : w1.cell? ⟨0, 0, none⟩ = some (.iface 74 (.agg #[.pointer (some ⟨1, 41, none⟩)])) := by
      rw [HB1.out.cell (p := ⟨0, 0, none⟩) (by simp)]; exact HG.out
    refine (codeOf_err 0 _ hg1).mono ?_
    clear hg1
    rintro e w2 ⟨rfl, hb⟩
    have hb3 : Below (w.alloc (.cells #[.string ⟨#[]⟩, .int .i64 0, .int .i64 0] 31)).heap.size (w.alloc (.cells #[.string ⟨#[]⟩, .int .i64 0, .int .i64 0] 31)) w2 := HB1.out.trans (hb.mono HB1.out.size)
    clear hb
    obtain ⟨hc2, hf2⟩ := bcell hb3
    have hz2 : w.heap.size < w2.heap.size := by have := hb3.size; simp at this; omega
    have HB : Hid (Below w.heap.size w w2) := ((Below.refl _ _).alloc (Nat.le_refl _) _).trans (hb3.mono (by simp))
    clear hb3
    go_wp2
    exact bodyPost_ret (v := textOut (t, y, 0)) (by simp [results, Tryd.results11, go_sem, textOut, hc2]) rfl ⟨rfl, ((HB.out.setCell (Nat.le_refl _) _).setCell (Nat.le_refl _) _).setCell (Nat.le_refl _) _⟩
  · obtain ⟨rfl, rfl⟩ := HZ.out hc
    have hcb : (c != 0) = true := by simpa using hc
    have HC : Hid (¬ c = 0) := hc
    clear hc
    go_enter Tryd.func11, Tryd.ntmps11
    go_wp2_with fail
    refine H1.out.mono ?_
    rintro e w1 ⟨rfl, hb1⟩
    have HB1 : Hid (Below (w.alloc (.cells #[.string ⟨#[]⟩, .int .i64 0, .int .i64 0] 31)).heap.size (w.alloc (.cells #[.string ⟨#[]⟩, .int .i64 0, .int .i64 0] 31)) w1) := hb1
    clear hb1
    go_wp2_with fail
    have hg1 : w1.cell? ⟨0, 0, none⟩ = some (.iface 74 (.agg #[.pointer (some ⟨1, 41, none⟩)])) := by
      rw [HB1.out.cell (p := ⟨0, 0, none⟩) (by simp)]; exact HG.out
    refine (codeOf_err c _ hg1).mono ?_
    clear hg1
    rintro e w2 ⟨rfl, hb⟩
    have hb3 : Below (w.alloc (.cells #[.string ⟨#[]⟩, .int .i64 0, .int .i64 0] 31)).heap.size (w.alloc (.cells #[.string ⟨#[]⟩, .int .i64 0, .int .i64 0] 31)) w2 := HB1.out.trans (hb.mono HB1.out.size)
    clear hb
    obtain ⟨hc2, hf2⟩ := bcell hb3
    have hz2 : w.heap.size < w2.heap.size := by have := hb3.size; simp at this; omega
    have HB : Hid (Below w.heap.size w w2) := ((Below.refl _ _).alloc (Nat.le_refl _) _).trans (hb3.mono (by simp))
    clear hb3
    go_wp2
    exact bodyPost_ret (v := textOut (⟨#[]⟩, 0, c)) (by simp [results, Tryd.results11, go_sem, textOut, hc2]) rfl ⟨rfl, ((HB.out.setCell (Nat.le_refl _) _).setCell (Nat.le_refl _) _).setCell (Nat.le_refl _) _⟩
end Go.Proofs.YtpdedggnjcnpgaaDoor
