/- What is proved here: plain facts on seals: a seal is taken apart again; with one byte turned it is no seal. -/
import Derived.Test.YtpdedggnjcnpgaaCrcM
namespace Go.Proofs.Ytpdedggnjcnpgaa
open Go.RowKit Go.Lib

theorem seal_size (t : ByteArray) : (sealOf t).size = t.size + 4 := by
  have h := congrArg List.length (toList_app t (four (crcOf t)))
  rw [List.length_append, ByteArray.toList_eq, ByteArray.toList_eq, ByteArray.toList_eq, ← size_eq, ← size_eq, ← size_eq, four_size] at h
  exact h
theorem seal_list (t : ByteArray) : (sealOf t).toList = t.toList ++ (four (crcOf t)).toList := toList_app _ _
theorem len_toList (t : ByteArray) : t.toList.length = t.size := by rw [ByteArray.toList_eq, size_eq]
theorem seal_body (t : ByteArray) : (sealOf t).extract 0 ((sealOf t).size - 4) = t := by
  apply toList_inj
  rw [extract_toList, ← ByteArray.toList_eq, seal_list, seal_size, List.drop_zero, Nat.sub_zero, Nat.add_sub_cancel]
  exact List.take_left' (len_toList t)
theorem take_body (s : ByteArray) : (s.extract 0 (s.size - 4)).toList = s.toList.take (s.size - 4) := by
  rw [extract_toList, List.drop_zero, Nat.sub_zero, ByteArray.toList_eq]
theorem set_split (l : List UInt8) (p : Nat) (d : UInt8) (hp : p < l.length) : l = l.take p ++ l[p] :: l.drop (p + 1) ∧ l.set p d = l.take p ++ d :: l.drop (p + 1) := by
  constructor
  · rw [← List.drop_eq_getElem_cons hp, List.take_append_drop]
  · rw [List.set_eq_take_append_cons_drop, if_pos hp]
/-- With one byte turned it is no seal. -/
theorem turned_bad (t s' : ByteArray) (p : Nat) (d : UInt8) (hp : p < (sealOf t).toList.length) (hd : d ≠ (sealOf t).toList[p]) (hs : s'.toList = (sealOf t).toList.set p d) : ¬ sealOf (s'.extract 0 (s'.size - 4)) = s' := by
  intro e
  have hlen : s'.size = t.size + 4 := by rw [← len_toList, hs, List.length_set, len_toList, seal_size]
  have hb := take_body s'
  rw [hs, hlen, Nat.add_sub_cancel, seal_list] at hb
  have hlist : (s'.extract 0 (s'.size - 4)).toList ++ (four (crcOf (s'.extract 0 (s'.size - 4)))).toList = (t.toList ++ (four (crcOf t)).toList).set p d := by
    rw [← toList_app, ← seal_list, ← hs]
    exact congrArg ByteArray.toList e
  rw [hlen, Nat.add_sub_cancel] at hlist
  have hl4 : (four (crcOf t)).toList.length = 4 := by rw [len_toList, four_size]
  have htl := len_toList t
  by_cases hpt : p < t.size
  · have hpt' : p < t.toList.length := by omega
    rw [List.set_append_left _ _ hpt'] at hb hlist
    rw [List.take_left' (by rw [List.length_set]; exact htl)] at hb
    rw [hb] at hlist
    have hf := List.append_cancel_left hlist
    have hc := four_inj _ _ (crcOf_range _) (crcOf_range _) (toList_inj hf)
    obtain ⟨h1, h2⟩ := set_split t.toList p d hpt'
    have hne : t.toList[p] ≠ d := by
      intro h
      apply hd
      rw [← h]
      simp only [seal_list, List.getElem_append_left hpt']
    exact crc_turned _ _ _ _ _ _ (by rw [← ByteArray.toList_eq, ← h1]) (by rw [← ByteArray.toList_eq, hb, ← h2]) hne hc.symm
  · have hpt' : t.toList.length ≤ p := by omega
    rw [List.set_append_right _ _ hpt'] at hb hlist
    rw [List.take_left' htl] at hb
    have ht : s'.extract 0 t.size = t := toList_inj hb
    rw [ht] at hlist
    have hf := List.append_cancel_left hlist
    have hq : p - t.toList.length < (four (crcOf t)).toList.length := by
      rw [seal_list, List.length_append] at hp
      omega
    have hx : (four (crcOf t)).toList[p - t.toList.length] = d := by
      have := congrArg (fun l : List UInt8 => l[p - t.toList.length]?) hf
      simp only [List.getElem?_eq_getElem hq, List.getElem?_set_self hq, Option.some.injEq] at this
      exact this
    apply hd
    simp only [seal_list, List.getElem_append_right hpt']
    exact hx.symm
end Go.Proofs.Ytpdedggnjcnpgaa
