/- What is proved here: the specification's l04Often writes how often an atom is; nothing that was there turns. -/
import Derived.Test.YtkkijmbpcffadajDoorOftM
import Derived.Test.YtkkijmbpcffadajDoorDecW
namespace Go.Proofs.YtkkijmbpcffadajDoor
open Go.RowKit

theorem cells3 {w w1 : World} {t : TypeId} {a b c : Value} (hb : Below (w.alloc (.cells #[a, b, c] t)).heap.size (w.alloc (.cells #[a, b, c] t)) w1) : w1.cell? ⟨w.heap.size, 0, none⟩ = some a ∧ w1.cell? ⟨w.heap.size, 1, none⟩ = some b ∧ w1.cell? ⟨w.heap.size, 2, none⟩ = some c ∧ w.heap.size < w1.heap.size := by
  have hz : w.heap.size < (w.alloc (.cells #[a, b, c] t)).heap.size := by simp
  exact ⟨by rw [hb.cell (p := ⟨w.heap.size, 0, none⟩) hz]; simp, by rw [hb.cell (p := ⟨w.heap.size, 1, none⟩) hz]; simp, by rw [hb.cell (p := ⟨w.heap.size, 2, none⟩) hz]; simp, Nat.lt_of_lt_of_le hz hb.size⟩
set_option maxRecDepth 100000 in
set_option maxHeartbeats 4000000 in
theorem often_any (ac : ByteArray) (al am : Int) (w : World) (h : Ways al am) :
    Calls Tryd.prog 18 #[.agg #[.string ac, .int .i64 al, .int .i64 am]] w fun e w' => e = .returned (.string (oftT al am)) ∧ Below w.heap.size w w' := by
  have BX : Hid (Below w.heap.size w (w.alloc (.cells #[.string ac, .int .i64 al, .int .i64 am] 40))) := (Below.refl _ _).alloc (Nat.le_refl _) _
  rcases h with ⟨rfl, rfl⟩ | ⟨rfl, rfl⟩ | ⟨rfl, rfl⟩ | ⟨rfl, rfl⟩ | ⟨k, h1, h2, rfl, rfl⟩ | ⟨k, h1, h2, rfl, rfl⟩ | ⟨k, j, h1, h2, h3, rfl, rfl⟩
  · go_enter Tryd.func18, Tryd.ntmps18
    go_wp2
    go_ret
    exact ⟨rfl, BX.out⟩
  · go_enter Tryd.func18, Tryd.ntmps18
    go_wp2
    go_ret
    exact ⟨rfl, BX.out⟩
  · go_enter Tryd.func18, Tryd.ntmps18
    go_wp2
    go_ret
    exact ⟨rfl, BX.out⟩
  · go_enter Tryd.func18, Tryd.ntmps18
    go_wp2
    go_ret
    exact ⟨rfl, BX.out⟩
  · have HO : Hid (oftT (k : Int) (k : Int) = ((⟨#[123]⟩ : ByteArray) ++ decT k) ++ ⟨#[125]⟩) := oft_just h1
    have t1 : ((k : Int) == 1) = false := by first | (simp; done) | (simp; omega)
    have t2 : ((k : Int) == 0) = false := by first | (simp; done) | (simp; omega)
    have hz := decT_size k
    go_enter Tryd.func18, Tryd.ntmps18
    go_wp2_with fail
    refine (dec_any k _ (by omega)).mono ?_
    rintro e w1 ⟨rfl, hb⟩
    obtain ⟨x0, x1, x2, x3⟩ := cells3 hb
    have B1 : Hid (Below w.heap.size w w1) := BX.out.trans (hb.mono BX.out.size)
    clear hb
    generalize decT k = d at *
    have hz2 : ((⟨#[123]⟩ : ByteArray) ++ d).size = 1 + d.size := ByteArray.size_append
    go_wp2_with fail
    go_ret
    exact ⟨by rw [HO.out]; rfl, B1.out⟩
  · have HO : Hid (oftT (k : Int) (-1) = ((⟨#[123]⟩ : ByteArray) ++ decT k) ++ ⟨#[44, 125]⟩) := oft_from h1
    have t1 : ((k : Int) == 1) = false := by first | (simp; done) | (simp; omega)
    have t2 : ((k : Int) == 0) = false := by first | (simp; done) | (simp; omega)
    have t3 : ((-1 : Int) != (k : Int)) = true := by first | (simp; done) | (simp; omega)
    have hz := decT_size k
    go_enter Tryd.func18, Tryd.ntmps18
    go_wp2_with fail
    refine (dec_any k _ (by omega)).mono ?_
    rintro e w1 ⟨rfl, hb⟩
    obtain ⟨x0, x1, x2, x3⟩ := cells3 hb
    have B1 : Hid (Below w.heap.size w w1) := BX.out.trans (hb.mono BX.out.size)
    clear hb
    generalize decT k = d at *
    have hz2 : ((⟨#[123]⟩ : ByteArray) ++ d).size = 1 + d.size := ByteArray.size_append
    have hz3 : (((⟨#[123]⟩ : ByteArray) ++ d) ++ (⟨#[44]⟩ : ByteArray)).size = ((⟨#[123]⟩ : ByteArray) ++ d).size + 1 := ByteArray.size_append
    go_wp2_with fail
    go_ret
    refine ⟨?_, B1.out⟩
    rw [HO.out]
    show Ending.returned (.string ((((⟨#[123]⟩ : ByteArray) ++ d) ++ (⟨#[44]⟩ : ByteArray)) ++ (⟨#[125]⟩ : ByteArray))) = _
    rw [ByteArray.append_assoc]
    rfl
  · have HO : Hid (oftT (k : Int) (j : Int) = ((((⟨#[123]⟩ : ByteArray) ++ decT k) ++ ⟨#[44]⟩) ++ decT j) ++ ⟨#[125]⟩) := oft_two h1 (by omega)
    have t1 : ((j : Int) == 1) = false := by first | (simp; done) | (simp; omega)
    have t2 : ((j : Int) == -1) = false := by first | (simp; done) | (simp; omega)
    have t3 : ((j : Int) != (k : Int)) = true := by first | (simp; done) | (simp; omega)
    have t4 : (0 : Int) ≤ (j : Int) := by omega
    have hz := decT_size k
    have hzj := decT_size j
    by_cases c1 : k = 1
    · subst c1
      go_enter Tryd.func18, Tryd.ntmps18
      go_wp2_with fail
      refine (dec_any 1 _ (by omega)).mono ?_
      rintro e w1 ⟨rfl, hb⟩
      obtain ⟨x0, x1, x2, x3⟩ := cells3 hb
      have B1 : Hid (Below w.heap.size w w1) := BX.out.trans (hb.mono BX.out.size)
      clear hb
      generalize decT 1 = d at *
      have hz2 : ((⟨#[123]⟩ : ByteArray) ++ d).size = 1 + d.size := ByteArray.size_append
      have hz3 : (((⟨#[123]⟩ : ByteArray) ++ d) ++ (⟨#[44]⟩ : ByteArray)).size = ((⟨#[123]⟩ : ByteArray) ++ d).size + 1 := ByteArray.size_append
      go_wp2_with fail
      refine (dec_any j _ (by omega)).mono ?_
      rintro e w2 ⟨rfl, hb⟩
      have B2 : Hid (Below w.heap.size w w2) := B1.out.trans (hb.mono B1.out.size)
      clear hb
      generalize decT j = d2 at *
      have hz4 : ((((⟨#[123]⟩ : ByteArray) ++ d) ++ (⟨#[44]⟩ : ByteArray)) ++ d2).size = (((⟨#[123]⟩ : ByteArray) ++ d) ++ (⟨#[44]⟩ : ByteArray)).size + d2.size := ByteArray.size_append
      go_wp2_with fail
      go_ret
      exact ⟨by rw [HO.out]; rfl, B2.out⟩
    by_cases c0 : k = 0
    · subst c0
      go_enter Tryd.func18, Tryd.ntmps18
      go_wp2_with fail
      refine (dec_any 0 _ (by omega)).mono ?_
      rintro e w1 ⟨rfl, hb⟩
      obtain ⟨x0, x1, x2, x3⟩ := cells3 hb
      have B1 : Hid (Below w.heap.size w w1) := BX.out.trans (hb.mono BX.out.size)
      clear hb
      generalize decT 0 = d at *
      have hz2 : ((⟨#[123]⟩ : ByteArray) ++ d).size = 1 + d.size := ByteArray.size_append
      have hz3 : (((⟨#[123]⟩ : ByteArray) ++ d) ++ (⟨#[44]⟩ : ByteArray)).size = ((⟨#[123]⟩ : ByteArray) ++ d).size + 1 := ByteArray.size_append
      go_wp2_with fail
      refine (dec_any j _ (by omega)).mono ?_
      rintro e w2 ⟨rfl, hb⟩
      have B2 : Hid (Below w.heap.size w w2) := B1.out.trans (hb.mono B1.out.size)
      clear hb
      generalize decT j = d2 at *
      have hz4 : ((((⟨#[123]⟩ : ByteArray) ++ d) ++ (⟨#[44]⟩ : ByteArray)) ++ d2).size = (((⟨#[123]⟩ : ByteArray) ++ d) ++ (⟨#[44]⟩ : ByteArray)).size + d2.size := ByteArray.size_append
      go_wp2_with fail
      go_ret
      exact ⟨by rw [HO.out]; rfl, B2.out⟩
    have t5 : ((k : Int) == 1) = false := by first | (simp; done) | (simp; omega)
    have t6 : ((k : Int) == 0) = false := by first | (simp; done) | (simp; omega)
    go_enter Tryd.func18, Tryd.ntmps18
    go_wp2_with fail
    refine (dec_any k _ (by omega)).mono ?_
    rintro e w1 ⟨rfl, hb⟩
    obtain ⟨x0, x1, x2, x3⟩ := cells3 hb
    have B1 : Hid (Below w.heap.size w w1) := BX.out.trans (hb.mono BX.out.size)
    clear hb
    generalize decT k = d at *
    have hz2 : ((⟨#[123]⟩ : ByteArray) ++ d).size = 1 + d.size := ByteArray.size_append
    have hz3 : (((⟨#[123]⟩ : ByteArray) ++ d) ++ (⟨#[44]⟩ : ByteArray)).size = ((⟨#[123]⟩ : ByteArray) ++ d).size + 1 := ByteArray.size_append
    go_wp2_with fail
    refine (dec_any j _ (by omega)).mono ?_
    rintro e w2 ⟨rfl, hb⟩
    have B2 : Hid (Below w.heap.size w w2) := B1.out.trans (hb.mono B1.out.size)
    clear hb
    generalize decT j = d2 at *
    have hz4 : ((((⟨#[123]⟩ : ByteArray) ++ d) ++ (⟨#[44]⟩ : ByteArray)) ++ d2).size = (((⟨#[123]⟩ : ByteArray) ++ d) ++ (⟨#[44]⟩ : ByteArray)).size + d2.size := ByteArray.size_append
    go_wp2_with fail
    go_ret
    exact ⟨by rw [HO.out]; rfl, B2.out⟩
end Go.Proofs.YtkkijmbpcffadajDoor
