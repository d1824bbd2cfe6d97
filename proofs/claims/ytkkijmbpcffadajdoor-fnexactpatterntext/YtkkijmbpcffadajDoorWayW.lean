/- What is proved here: the program's wayFor hands back the way of a right atom, and each way's written() its text; nothing that was there turns. -/
import Derived.Test.YtkkijmbpcffadajDoorOftM
import Derived.Test.YtkkijmbpcffadajDoorFmtW
import Derived.Deep.RegionWith
namespace Go.Proofs.YtkkijmbpcffadajDoor
open Go.RowKit

theorem once_any (w : World) : Calls Tryd.prog 105 #[.agg #[]] w fun e w' => e = .returned (.string ⟨#[]⟩) ∧ Below w.heap.size w w' := by
  go_enter Tryd.func105, Tryd.ntmps105
  go_wp2
  go_ret
  exact ⟨rfl, (Below.refl _ _).alloc (Nat.le_refl _) _⟩
theorem maybe_any (w : World) : Calls Tryd.prog 106 #[.agg #[]] w fun e w' => e = .returned (.string ⟨#[63]⟩) ∧ Below w.heap.size w w' := by
  go_enter Tryd.func106, Tryd.ntmps106
  go_wp2
  go_ret
  exact ⟨rfl, (Below.refl _ _).alloc (Nat.le_refl _) _⟩
theorem anyT_any (w : World) : Calls Tryd.prog 107 #[.agg #[]] w fun e w' => e = .returned (.string ⟨#[42]⟩) ∧ Below w.heap.size w w' := by
  go_enter Tryd.func107, Tryd.ntmps107
  go_wp2
  go_ret
  exact ⟨rfl, (Below.refl _ _).alloc (Nat.le_refl _) _⟩
theorem someT_any (w : World) : Calls Tryd.prog 108 #[.agg #[]] w fun e w' => e = .returned (.string ⟨#[43]⟩) ∧ Below w.heap.size w w' := by
  go_enter Tryd.func108, Tryd.ntmps108
  go_wp2
  go_ret
  exact ⟨rfl, (Below.refl _ _).alloc (Nat.le_refl _) _⟩
theorem exactly_any (k : Nat) (hk : k ≤ 20) (w : World) : Calls Tryd.prog 109 #[.int .i64 (k : Int)] w fun e w' => e = .returned (.string (((⟨#[123]⟩ : ByteArray) ++ decT k) ++ ⟨#[125]⟩)) ∧ Below w.heap.size w w' := by
  have HF : Hid (∀ W, Calls Tryd.prog 110 #[.int .i64 (k : Int), .int .i64 10] W fun e w' => e = .returned (.string (decT k)) ∧ w' = W) := fun W => fmt_any k hk W
  have hz := decT_size k
  generalize decT k = d at *
  have hz2 : ((⟨#[123]⟩ : ByteArray) ++ d).size = 1 + d.size := ByteArray.size_append
  go_enter Tryd.func109, Tryd.ntmps109
  go_wp2_with (go_at_call 110; refine (HF.out _).mono ?_; rintro e w2 ⟨rfl, hw2⟩; rw [hw2]; clear hw2 w2)
  go_ret
  exact ⟨rfl, Below.refl _ _⟩
theorem atLeast_any (k : Nat) (hk : k ≤ 20) (w : World) : Calls Tryd.prog 122 #[.int .i64 (k : Int)] w fun e w' => e = .returned (.string (((⟨#[123]⟩ : ByteArray) ++ decT k) ++ ⟨#[44, 125]⟩)) ∧ Below w.heap.size w w' := by
  have HF : Hid (∀ W, Calls Tryd.prog 110 #[.int .i64 (k : Int), .int .i64 10] W fun e w' => e = .returned (.string (decT k)) ∧ w' = W) := fun W => fmt_any k hk W
  have hz := decT_size k
  generalize decT k = d at *
  have hz2 : ((⟨#[123]⟩ : ByteArray) ++ d).size = 1 + d.size := ByteArray.size_append
  go_enter Tryd.func122, Tryd.ntmps122
  go_wp2_with (go_at_call 110; refine (HF.out _).mono ?_; rintro e w2 ⟨rfl, hw2⟩; rw [hw2]; clear hw2 w2)
  go_ret
  exact ⟨rfl, Below.refl _ _⟩
/-- The way of a right atom, its text, and what writes it. -/
inductive WayOf (l m : Int) (v : Value) : Prop
  | once : l = 1 → m = 1 → v = .iface 67 (.agg #[]) → WayOf l m v
  | maybe : l = 0 → m = 1 → v = .iface 68 (.agg #[]) → WayOf l m v
  | any : l = 0 → m = -1 → v = .iface 69 (.agg #[]) → WayOf l m v
  | some : l = 1 → m = -1 → v = .iface 70 (.agg #[]) → WayOf l m v
  | just (k : Nat) : 2 ≤ k → k ≤ 20 → l = (k : Int) → m = (k : Int) → v = .iface 71 (.int .i64 (k : Int)) → WayOf l m v
  | from (k : Nat) : 2 ≤ k → k ≤ 20 → l = (k : Int) → m = -1 → v = .iface 72 (.int .i64 (k : Int)) → WayOf l m v
  | two (k j : Nat) : 2 ≤ j → j ≤ 20 → k < j → l = (k : Int) → m = (j : Int) → v = .iface 74 (.agg #[.int .i64 (k : Int), .int .i64 (j : Int)]) → WayOf l m v
set_option maxRecDepth 100000 in
set_option maxHeartbeats 4000000 in
theorem wayFor_any (ac : ByteArray) (al am : Int) (w : World) (h : Ways al am) :
    Calls Tryd.prog 22 #[.agg #[.string ac, .int .i64 al, .int .i64 am]] w fun e w' => ∃ v, e = .returned v ∧ WayOf al am v ∧ Below w.heap.size w w' := by
  have BX : Hid (Below w.heap.size w (w.alloc (.cells #[.string ac, .int .i64 al, .int .i64 am] 40))) := (Below.refl _ _).alloc (Nat.le_refl _) _
  rcases h with ⟨rfl, rfl⟩ | ⟨rfl, rfl⟩ | ⟨rfl, rfl⟩ | ⟨rfl, rfl⟩ | ⟨k, h1, h2, rfl, rfl⟩ | ⟨k, h1, h2, rfl, rfl⟩ | ⟨k, j, h1, h2, h3, rfl, rfl⟩
  · go_enter Tryd.func22, Tryd.ntmps22
    go_wp2
    go_ret
    exact ⟨_, rfl, .once rfl rfl rfl, BX.out⟩
  · go_enter Tryd.func22, Tryd.ntmps22
    go_wp2
    go_ret
    exact ⟨_, rfl, .maybe rfl rfl rfl, BX.out⟩
  · go_enter Tryd.func22, Tryd.ntmps22
    go_wp2
    go_ret
    exact ⟨_, rfl, .any rfl rfl rfl, BX.out⟩
  · go_enter Tryd.func22, Tryd.ntmps22
    go_wp2
    go_ret
    exact ⟨_, rfl, .some rfl rfl rfl, BX.out⟩
  · have t1 : ((k : Int) == 1) = false := by first | (simp; done) | (simp; omega)
    have t2 : ((k : Int) == 0) = false := by first | (simp; done) | (simp; omega)
    go_enter Tryd.func22, Tryd.ntmps22
    go_wp2
    go_ret
    exact ⟨_, rfl, .just k h1 h2 rfl rfl rfl, BX.out⟩
  · have t1 : ((k : Int) == 1) = false := by first | (simp; done) | (simp; omega)
    have t2 : ((k : Int) == 0) = false := by first | (simp; done) | (simp; omega)
    have t3 : ((k : Int) == -1) = false := by first | (simp; done) | (simp; omega)
    go_enter Tryd.func22, Tryd.ntmps22
    go_wp2
    go_ret
    exact ⟨_, rfl, .from k h1 h2 rfl rfl rfl, BX.out⟩
  · have t1 : ((j : Int) == 1) = false := by first | (simp; done) | (simp; omega)
    have t2 : ((j : Int) == -1) = false := by first | (simp; done) | (simp; omega)
    have t3 : ((k : Int) == (j : Int)) = false := by first | (simp; done) | (simp; omega)
    have H3 : Hid (k < j) := h3
    clear h3
    by_cases c1 : k = 1
    · subst c1
      go_enter Tryd.func22, Tryd.ntmps22
      go_wp2
      go_ret
      exact ⟨_, rfl, .two 1 j h1 h2 H3.out rfl rfl rfl, BX.out⟩
    by_cases c0 : k = 0
    · subst c0
      go_enter Tryd.func22, Tryd.ntmps22
      go_wp2
      go_ret
      exact ⟨_, rfl, .two 0 j h1 h2 H3.out rfl rfl rfl, BX.out⟩
    have t5 : ((k : Int) == 1) = false := by first | (simp; done) | (simp; omega)
    have t6 : ((k : Int) == 0) = false := by first | (simp; done) | (simp; omega)
    go_enter Tryd.func22, Tryd.ntmps22
    go_wp2
    go_ret
    exact ⟨_, rfl, .two k j h1 h2 H3.out rfl rfl rfl, BX.out⟩
end Go.Proofs.YtkkijmbpcffadajDoor
