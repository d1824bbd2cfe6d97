/- What is proved here: what putNum and putText write is read back by numOf and textOf, with the place behind it; of bytes that end too early nothing is read. Plain mathematics. -/
import Derived.Test.YtpdedggnjcnpgaaDoorImplTextW
import Derived.Test.YtpdedggnjcnpgaaDoorPutTextW
namespace Go.Proofs.YtpdedggnjcnpgaaDoor
open Go.RowKit Go.Lib

theorem unfold_fold (n : Int) : unfoldOf (foldOf n) = n := by
  unfold unfoldOf foldOf
  split <;> split <;> omega

/-- The bytes from a place on are these numbers. -/
def Lies (s : ByteArray) : Nat → List Int → Prop
  | _, [] => True
  | p, a :: L => (∃ h : p < s.size, (s[p].toNat : Int) = a) ∧ Lies s (p + 1) L

theorem pow_split (i : Nat) (h : i ≤ 8) : (2 : Int) ^ (64 - 7 * i) = 2 ^ (64 - 7 * (i + 1)) * 128 := by
  have e : 64 - 7 * i = (64 - 7 * (i + 1)) + 7 := by omega
  rw [e, Int.pow_add]
  rfl
theorem small9 (v : Int) (h : v < 2 ^ (64 - 7 * 9)) : v < 2 := h
theorem small10 (v : Int) (h : v < 2 ^ (64 - 7 * 10)) : v < 1 := h
theorem pow_next (i : Nat) : (2 : Int) ^ (7 * (i + 1)) = 2 ^ (7 * i) * 128 := by rw [Nat.mul_add, Int.pow_add]; rfl
theorem v_next {v : Int} {i : Nat} (h1 : v < 2 ^ (64 - 7 * i)) (hi : i ≤ 8) : v / 128 < 2 ^ (64 - 7 * (i + 1)) := by
  rw [pow_split i hi] at h1
  omega
theorem not_top {v : Int} {i : Nat} (h1 : v < 2 ^ (64 - 7 * i)) (hv : 128 ≤ v) (hi : i ≤ 9) : i ≤ 8 := by
  by_cases h9 : i = 9
  · subst h9
    have := small9 v h1
    omega
  · omega
theorem sum_next (x v : Int) (i : Nat) : x + (v % 128 + 128) % 128 * 2 ^ (7 * i) + v / 128 * 2 ^ (7 * (i + 1)) = x + v * 2 ^ (7 * i) := by
  rw [pow_next]
  have e : v = v % 128 + v / 128 * 128 := by omega
  have e2 : (v % 128 + 128) % 128 = v % 128 := by omega
  rw [e2]
  generalize (2 : Int) ^ (7 * i) = P
  have : v * P = (v % 128 + v / 128 * 128) * P := by rw [← e]
  rw [this, Int.add_mul, Int.mul_assoc, Int.mul_comm 128 P]
  omega

theorem decode (s : ByteArray) : ∀ (f g i p : Nat) (x v : Int), i + f = 10 → 10 ≤ g + i → 0 ≤ v → v < 2 ^ (64 - 7 * i) → (i = 0 ∨ 0 < v) → Lies s p (leb g v) →
    getU s f i p x = (x + v * 2 ^ (7 * i), ((p + (leb g v).length : Nat) : Int), 0)
  | 0, g, i, p, x, v, hf, hg, h0, h1, hz, hl => by
    obtain rfl : i = 10 := by omega
    have := small10 v h1
    omega
  | f + 1, g, i, p, x, v, hf, hg, h0, h1, hz, hl => by
    by_cases hv : v < 128
    · rw [leb_last g v hv] at hl ⊢
      obtain ⟨⟨hp, hb⟩, _⟩ := hl
      rw [getU_last s f i p x hp (by omega), hb]
      unfold lastU
      rw [if_neg (fun h => by obtain ⟨rfl, h⟩ := h; have := small9 v h1; omega), if_neg (fun h => by omega)]
      rfl
    · have hi : i ≤ 8 := not_top h1 (by omega) (by omega)
      obtain ⟨g, rfl⟩ : ∃ k, g = k + 1 := ⟨g - 1, by omega⟩
      rw [leb_more g v (by omega)] at hl ⊢
      obtain ⟨⟨hp, hb⟩, hr⟩ := hl
      rw [getU_more s f i p x hp (by omega) (by omega), hb, decode s f g (i + 1) (p + 1) _ (v / 128) (by omega) (by omega) (by omega) (v_next h1 hi) (Or.inr (by omega)) hr, sum_next]
      simp only [List.length_cons]
      have e : p + 1 + (leb g (v / 128)).length = p + ((leb g (v / 128)).length + 1) := by omega
      rw [e]

theorem cut_short (s : ByteArray) : ∀ (f g i p : Nat) (x v : Int), i + f = 10 → 10 ≤ g + i → 0 ≤ v → v < 2 ^ (64 - 7 * i) → (i = 0 ∨ 0 < v) → Lies s p (leb g v).dropLast → s.size = p + (leb g v).dropLast.length →
    getU s f i p x = (0, 0, 4)
  | 0, g, i, p, x, v, hf, hg, h0, h1, hz, hl, hs => by
    obtain rfl : i = 10 := by omega
    have := small10 v h1
    omega
  | f + 1, g, i, p, x, v, hf, hg, h0, h1, hz, hl, hs => by
    by_cases hv : v < 128
    · rw [leb_last g v hv] at hs
      exact getU_short s f i p x (by simp at hs; omega)
    · have hi : i ≤ 8 := not_top h1 (by omega) (by omega)
      obtain ⟨g, rfl⟩ : ∃ k, g = k + 1 := ⟨g - 1, by omega⟩
      have hne : leb g (v / 128) ≠ [] := by
        intro h
        have := (leb_length g (v / 128)).1
        rw [h] at this
        simp at this
      rw [leb_more g v (by omega), List.dropLast_cons_of_ne_nil hne] at hl hs
      obtain ⟨⟨hp, hb⟩, hr⟩ := hl
      rw [getU_more s f i p x hp (by omega) (by omega)]
      exact cut_short s f g (i + 1) (p + 1) _ (v / 128) (by omega) (by omega) (by omega) (v_next h1 hi) (Or.inr (by omega)) hr (by simp only [List.length_cons] at hs; omega)

theorem leb_fits : ∀ (f g i : Nat) (v : Int), i + f = 10 → 10 ≤ g + i → 0 ≤ v → v < 2 ^ (64 - 7 * i) → (i = 0 ∨ 0 < v) → (leb g v).length ≤ f ∧ ∀ x ∈ leb g v, 0 ≤ x ∧ x < 256
  | 0, g, i, v, hf, hg, h0, h1, hz => by
    obtain rfl : i = 10 := by omega
    have := small10 v h1
    omega
  | f + 1, g, i, v, hf, hg, h0, h1, hz => by
    by_cases hv : v < 128
    · rw [leb_last g v hv]
      exact ⟨by simp, fun x hx => by simp at hx; omega⟩
    · have hi : i ≤ 8 := not_top h1 (by omega) (by omega)
      obtain ⟨g, rfl⟩ : ∃ k, g = k + 1 := ⟨g - 1, by omega⟩
      rw [leb_more g v (by omega)]
      have ih := leb_fits f g (i + 1) (v / 128) (by omega) (by omega) (by omega) (v_next h1 hi) (Or.inr (by omega))
      refine ⟨by simp only [List.length_cons]; omega, fun x hx => ?_⟩
      rcases List.mem_cons.1 hx with rfl | h
      · omega
      · exact ih.2 x h

theorem lies_of (s : ByteArray) : ∀ (p : Nat) (L : List Int), (∀ (j : Nat) (hj : j < L.length), s.data.toList[p + j]? = some (UInt8.ofNat (L[j]).toNat)) → (∀ x ∈ L, 0 ≤ x ∧ x < 256) → Lies s p L
  | _, [], _, _ => trivial
  | p, a :: L, h, hr => by
    refine ⟨?_, lies_of s (p + 1) L (fun j hj => ?_) (fun x hx => hr x (List.mem_cons_of_mem _ hx))⟩
    · have h0 := h 0 (by simp)
      obtain ⟨hp, he⟩ := List.getElem?_eq_some_iff.1 h0
      have hp' : p < s.size := by rw [size_eq]; exact hp
      refine ⟨hp', ?_⟩
      have e : s[p] = UInt8.ofNat a.toNat := by
        have : s.data.toList[p] = UInt8.ofNat a.toNat := he
        rw [← this]
        rfl
      rw [e]
      have := hr a List.mem_cons_self
      simp only [UInt8.toNat_ofNat']
      omega
    · have h1 := h (j + 1) (by simp; omega)
      have e : p + (j + 1) = p + 1 + j := by omega
      rw [e] at h1
      simpa using h1

theorem data_app (a b : ByteArray) : (a ++ b).data.toList = a.data.toList ++ b.data.toList := by simp
theorem nums_list (M : List Int) : (strOfNums M).data.toList = M.map fun n => UInt8.ofNat n.toNat := rfl
/-- In a text the middle lies where the first part ends. -/
theorem lies_mid (a b : ByteArray) (M : List Int) (hr : ∀ x ∈ M, 0 ≤ x ∧ x < 256) : Lies (a ++ strOfNums M ++ b) a.size M := by
  refine lies_of _ _ _ (fun j hj => ?_) hr
  rw [data_app, data_app, nums_list, List.append_assoc, List.getElem?_append_right (by rw [size_eq]; omega), List.getElem?_append_left (by rw [size_eq]; simp; omega), size_eq]
  have e : a.data.toList.length + j - a.data.toList.length = j := by omega
  rw [e, List.getElem?_map, List.getElem?_eq_getElem hj]
  rfl

theorem put_len (n : Int) (h1 : -9223372036854775808 ≤ n) (h2 : n ≤ 9223372036854775807) : 1 ≤ (putNum n).size ∧ (putNum n).size ≤ 10 := by
  have hr := foldOf_range n h1 h2
  unfold putNum
  rw [strOfNums_size]
  exact ⟨(leb_length _ _).1, (leb_fits 10 64 0 (foldOf n) rfl (by decide) hr.1 (by have := hr.2; show foldOf n < 18446744073709551616; omega) (Or.inl rfl)).1⟩

theorem num_back (a b : ByteArray) (n : Int) (h1 : -9223372036854775808 ≤ n) (h2 : n ≤ 9223372036854775807) (hs : (a ++ putNum n ++ b).size ≤ 8000) :
    numOf (a ++ putNum n ++ b) (a.size : Int) = (n, ((a.size + (putNum n).size : Nat) : Int), 0) := by
  have hr := foldOf_range n h1 h2
  have hlt : foldOf n < 2 ^ (64 - 7 * 0) := by have := hr.2; show foldOf n < 18446744073709551616; omega
  have hf := leb_fits 10 64 0 (foldOf n) rfl (by decide) hr.1 hlt (Or.inl rfl)
  have hd := decode (a ++ putNum n ++ b) 10 64 0 a.size 0 (foldOf n) rfl (by decide) hr.1 hlt (Or.inl rfl) (lies_mid a b _ hf.2)
  unfold numOf
  rw [if_neg (by omega), if_neg (by omega), Int.toNat_natCast, hd]
  have e : (0 : Int) + foldOf n * 2 ^ (7 * 0) = foldOf n := by simp
  simp only [e, unfold_fold]
  unfold putNum
  rw [strOfNums_size]

theorem num_cut (n : Int) (h1 : -9223372036854775808 ≤ n) (h2 : n ≤ 9223372036854775807) :
    numOf ((putNum n).extract 0 ((putNum n).size - 1)) 0 = (0, 0, 4) := by
  have hr := foldOf_range n h1 h2
  have hlt : foldOf n < 2 ^ (64 - 7 * 0) := by have := hr.2; show foldOf n < 18446744073709551616; omega
  have hf := leb_fits 10 64 0 (foldOf n) rfl (by decide) hr.1 hlt (Or.inl rfl)
  have he : (putNum n).extract 0 ((putNum n).size - 1) = strOfNums (leb 64 (foldOf n)).dropLast := by
    apply ByteArray.ext
    apply Array.ext'
    unfold putNum
    rw [ByteArray.data_extract, Array.toList_extract, nums_list, nums_list, strOfNums_size, List.dropLast_eq_take]
    simp [List.extract, List.map_take]
  rw [he]
  have hsz : (strOfNums (leb 64 (foldOf n)).dropLast).size = 0 + (leb 64 (foldOf n)).dropLast.length := by rw [strOfNums_size]; omega
  have hl : Lies (strOfNums (leb 64 (foldOf n)).dropLast) 0 (leb 64 (foldOf n)).dropLast := by
    have h := lies_mid ⟨#[]⟩ ⟨#[]⟩ (leb 64 (foldOf n)).dropLast (fun x hx => hf.2 x ((List.dropLast_sublist _).subset hx))
    have e : (⟨#[]⟩ : ByteArray) ++ strOfNums (leb 64 (foldOf n)).dropLast ++ ⟨#[]⟩ = strOfNums (leb 64 (foldOf n)).dropLast := by
      apply ByteArray.ext
      simp
    rw [e] at h
    exact h
  have hd := cut_short _ 10 64 0 0 0 (foldOf n) rfl (by decide) hr.1 hlt (Or.inl rfl) hl hsz
  have hlen : (leb 64 (foldOf n)).dropLast.length ≤ 10 := by rw [List.length_dropLast]; have := hf.1; omega
  unfold numOf
  rw [if_neg (by rw [strOfNums_size]; omega), if_neg (by omega)]
  show (unfoldOf (getU _ 10 0 0 0).1, _, _) = _
  rw [show (0 : Int).toNat = 0 from rfl, hd]
  rfl

theorem text_back (a u : ByteArray) (hs : (a ++ putText u).size ≤ 8000) :
    textOf (a ++ putText u) (a.size : Int) = (u, ((a.size + (putText u).size : Nat) : Int), 0) := by
  have hsz : (a ++ putText u).size = a.size + (putText u).size := ByteArray.size_append
  have hpz : (putText u).size = (putNum (u.size : Int)).size + u.size := ByteArray.size_append
  have hu : u.size ≤ 8000 := by omega
  have e : a ++ putText u = a ++ putNum (u.size : Int) ++ u := by unfold putText; rw [ByteArray.append_assoc]
  have hn := num_back a u (u.size : Int) (by omega) (by omega) (by rw [← e]; exact hs)
  rw [← e] at hn
  rw [textOf_eq _ _ _ _ _ hn]
  unfold readTo
  rw [if_neg (by decide), if_neg (by omega), if_neg (by rw [hsz, hpz]; omega), Int.toNat_natCast, Int.toNat_natCast, e]
  have hx : (a ++ putNum (u.size : Int) ++ u).extract (a.size + (putNum (u.size : Int)).size) (a.size + (putNum (u.size : Int)).size + u.size) = u := by
    have e2 : (a ++ putNum (u.size : Int)).size = a.size + (putNum (u.size : Int)).size := ByteArray.size_append
    exact ByteArray.extract_append_eq_right e2.symm (by rw [e2])
  rw [hx, hpz]
  have e3 : (((a.size + (putNum (u.size : Int)).size : Nat) : Int)) + (u.size : Int) = ((a.size + ((putNum (u.size : Int)).size + u.size) : Nat) : Int) := by omega
  rw [e3]

theorem text_cut (u : ByteArray) (hs : (putText u).size ≤ 8001) :
    (textOf ((putText u).extract 0 ((putText u).size - 1)) 0).2.2 = 4 := by
  have hpz : (putText u).size = (putNum (u.size : Int)).size + u.size := ByteArray.size_append
  by_cases h0 : u.size = 0
  · have hu : u = ⟨#[]⟩ := by
      apply ByteArray.ext
      have : u.data.size = 0 := h0
      exact Array.eq_empty_of_size_eq_zero this
    have e : putText u = putNum (u.size : Int) := by
      unfold putText
      rw [hu]
      exact app_none _
    rw [e]
    have hn := num_cut (u.size : Int) (by omega) (by omega)
    rw [textOf_eq _ _ _ _ _ hn]
    rfl
  · have e : (putText u).extract 0 ((putText u).size - 1) = (⟨#[]⟩ : ByteArray) ++ putNum (u.size : Int) ++ u.extract 0 (u.size - 1) := by
      apply ByteArray.ext
      apply Array.ext'
      have h2 : u.data.toList.length = u.size := (size_eq u).symm
      have h3 : (putNum (u.size : Int)).data.toList.length = (putNum (u.size : Int)).size := (size_eq _).symm
      rw [hpz]
      unfold putText
      simp only [ByteArray.data_extract, ByteArray.data_append, Array.toList_extract, Array.toList_append, List.extract, List.drop_zero, Nat.sub_zero]
      rw [List.take_append, h3, List.take_of_length_le (by omega)]
      have e4 : (putNum (u.size : Int)).size + u.size - 1 - (putNum (u.size : Int)).size = u.size - 1 := by omega
      rw [e4]
      simp
    have hez : (u.extract 0 (u.size - 1)).size = u.size - 1 := by simp
    have hsz : ((⟨#[]⟩ : ByteArray) ++ putNum (u.size : Int) ++ u.extract 0 (u.size - 1)).size = (putNum (u.size : Int)).size + (u.size - 1) := by
      rw [ByteArray.size_append, ByteArray.size_append, hez]
      show 0 + _ + _ = _
      omega
    have hn := num_back ⟨#[]⟩ (u.extract 0 (u.size - 1)) (u.size : Int) (by omega) (by omega) (by rw [hsz]; omega)
    rw [e, show (0 : Int) = (((⟨#[]⟩ : ByteArray).size : Nat) : Int) from rfl, textOf_eq _ _ _ _ _ hn]
    unfold readTo
    rw [if_neg (by decide), if_neg (by have := (put_len (u.size : Int) (by omega) (by omega)).1; omega), if_pos (by rw [hsz]; show ((_ : Nat) : Int) - ((0 + _ : Nat) : Int) < _; omega)]
end Go.Proofs.YtpdedggnjcnpgaaDoor
