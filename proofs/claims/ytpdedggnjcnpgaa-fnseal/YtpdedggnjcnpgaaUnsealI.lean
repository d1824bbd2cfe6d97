/- What is proved here: impl.Unseal answers by the seal (sealOf); nothing that was there turns. -/
import Derived.Test.YtpdedggnjcnpgaaSealW
namespace Go.Proofs.Ytpdedggnjcnpgaa
open Go.RowKit Go.Lib

theorem bcell {W w1 : World} (hb : Below W.heap.size W w1) : (∀ b o, b < W.heap.size → w1.cell? ⟨b, o, none⟩ = W.cell? ⟨b, o, none⟩) ∧ (∀ b o, b < W.heap.size → w1.frozen? ⟨b, o, none⟩ = W.frozen? ⟨b, o, none⟩) :=
  ⟨fun b o h => hb.cell (p := ⟨b, o, none⟩) h, fun b o h => hb.frozen (p := ⟨b, o, none⟩) h⟩
theorem toList_inj {a b : ByteArray} (h : a.toList = b.toList) : a = b := by
  rw [ByteArray.toList_eq, ByteArray.toList_eq] at h
  exact ByteArray.ext (Array.toList_inj.1 h)
theorem toList_app (a b : ByteArray) : (a ++ b).toList = a.toList ++ b.toList := by
  rw [ByteArray.toList_eq, ByteArray.toList_eq, ByteArray.toList_eq]
  simp
theorem split_four (s : ByteArray) (k : Nat) : s.extract 0 k ++ s.extract k s.size = s := by
  apply toList_inj
  rw [toList_app, extract_toList, extract_toList, ByteArray.toList_eq, List.drop_zero, Nat.sub_zero, List.take_of_length_le (l := s.data.toList.drop k) (by rw [List.length_drop, ← size_eq]; exact Nat.le_refl _)]
  exact List.take_append_drop _ _
theorem sealed_iff (s : ByteArray) : (sealOf (s.extract 0 (s.size - 4)) = s) ↔ four (crcOf (s.extract 0 (s.size - 4))) = s.extract (s.size - 4) s.size := by
  have hsp := split_four s (s.size - 4)
  constructor
  · intro h
    apply toList_inj
    have h2 : (s.extract 0 (s.size - 4) ++ four (crcOf (s.extract 0 (s.size - 4)))).toList = (s.extract 0 (s.size - 4) ++ s.extract (s.size - 4) s.size).toList := by
      rw [hsp]
      exact congrArg ByteArray.toList h
    rw [toList_app, toList_app] at h2
    exact List.append_cancel_left h2
  · intro h
    unfold sealOf
    rw [h]
    exact hsp
theorem app_none (a : ByteArray) : a ++ (⟨#[]⟩ : ByteArray) = a := by
  apply toList_inj
  rw [toList_app, ByteArray.toList_eq ⟨#[]⟩]
  simp
/-- What Unseal tells. -/
def unsealed (t : ByteArray) (code : Int) : Value := .agg #[.string t, .int .i64 0, .int .i64 code]

set_option maxHeartbeats 1000000 in
theorem implUnseal_big (s : ByteArray) (w : World) (hs : s.size ≤ maxLen) (h : 8000 < s.size) :
    Calls Try.prog 8 #[.string s] w fun e w' => e = .returned (unsealed ⟨#[]⟩ 2) ∧ Below w.heap.size w w' := by
  unfold maxLen at hs
  go_enter Try.func8, Try.ntmps8
  go_wp2
  exact bodyPost_ret (v := unsealed ⟨#[]⟩ 2) (by simp [results, Try.results8, go_sem, unsealed]) rfl ⟨rfl, (Below.refl _ _).alloc (Nat.le_refl _) _⟩
set_option maxHeartbeats 1000000 in
theorem implUnseal_short (s : ByteArray) (w : World) (h : s.size < 4) :
    Calls Try.prog 8 #[.string s] w fun e w' => e = .returned (unsealed ⟨#[]⟩ 4) ∧ Below w.heap.size w w' := by
  go_enter Try.func8, Try.ntmps8
  go_wp2
  exact bodyPost_ret (v := unsealed ⟨#[]⟩ 4) (by simp [results, Try.results8, go_sem, unsealed]) rfl ⟨rfl, (Below.refl _ _).alloc (Nat.le_refl _) _⟩

set_option maxHeartbeats 1000000 in
theorem implUnseal_bad (s : ByteArray) (w : World) (h4 : 4 ≤ s.size) (h8 : s.size ≤ 8000) (hg : ¬ sealOf (s.extract 0 (s.size - 4)) = s) :
    Calls Try.prog 8 #[.string s] w fun e w' => e = .returned (unsealed ⟨#[]⟩ 5) ∧ Below w.heap.size w w' := by
  have heq : ((sealOf (s.extract 0 (s.size - 4))).toList == s.toList) = false := by
    rw [beq_eq_false_iff_ne]
    intro h
    exact hg (toList_inj h)
  clear hg
  have hm : (s.extract 0 (s.size - 4)).size ≤ 7996 := by rw [ByteArray.size_extract]; omega
  go_enter Try.func8, Try.ntmps8
  go_wp2_with fail
  refine (implSeal_yes _ _ hm).mono ?_
  rintro e w1 ⟨rfl, hbel⟩
  obtain ⟨hc, hf⟩ := bcell hbel
  have hz : w.heap.size < w1.heap.size := by have := hbel.size; simp at this; omega
  have HB : Hid (Below w.heap.size w w1) := ((Below.refl _ _).alloc (Nat.le_refl _) _).trans (hbel.mono (by simp))
  clear hbel
  go_wp2
  exact bodyPost_ret (v := unsealed ⟨#[]⟩ 5) (by simp [results, Try.results8, go_sem, unsealed, hc]) rfl ⟨rfl, ((HB.out.setCell (Nat.le_refl _) _).setCell (Nat.le_refl _) _).setCell (Nat.le_refl _) _⟩

set_option maxHeartbeats 1000000 in
theorem implUnseal_good (s : ByteArray) (w : World) (h4 : 4 ≤ s.size) (h8 : s.size ≤ 8000) (hg : sealOf (s.extract 0 (s.size - 4)) = s) :
    Calls Try.prog 8 #[.string s] w fun e w' => e = .returned (unsealed (s.extract 0 (s.size - 4)) 0) ∧ Below w.heap.size w w' := by
  have heq : ((sealOf (s.extract 0 (s.size - 4))).toList == s.toList) = true := by rw [hg]; simp
  clear hg
  have hm : (s.extract 0 (s.size - 4)).size ≤ 7996 := by rw [ByteArray.size_extract]; omega
  go_enter Try.func8, Try.ntmps8
  go_wp2_with fail
  refine (implSeal_yes _ _ hm).mono ?_
  rintro e w1 ⟨rfl, hbel⟩
  obtain ⟨hc, hf⟩ := bcell hbel
  have hz : w.heap.size < w1.heap.size := by have := hbel.size; simp at this; omega
  have HB : Hid (Below w.heap.size w w1) := ((Below.refl _ _).alloc (Nat.le_refl _) _).trans (hbel.mono (by simp))
  clear hbel
  go_wp2_with fail
  have hj : (s.extract 0 (s.size - 4)).size + (⟨#[]⟩ : ByteArray).size ≤ 100000000 := by
    have e : (⟨#[]⟩ : ByteArray).size = 0 := rfl
    omega
  refine (joined_any _ ⟨#[]⟩ _ hj).mono ?_
  rintro e w2 ⟨rfl, hbel2⟩
  obtain ⟨hc2, hf2⟩ := bcell hbel2
  have hz2 : w.heap.size < w2.heap.size := by have := hbel2.size; omega
  have HB2 : Hid (Below w.heap.size w w2) := HB.out.trans (hbel2.mono HB.out.size)
  clear hbel2
  rw [app_none]
  go_wp2
  exact bodyPost_ret (v := unsealed (s.extract 0 (s.size - 4)) 0) (by simp [results, Try.results8, go_sem, unsealed, hc2, hc, hz]) rfl ⟨rfl, ((HB2.out.setCell (Nat.le_refl _) _).setCell (Nat.le_refl _) _).setCell (Nat.le_refl _) _⟩

end Go.Proofs.Ytpdedggnjcnpgaa
