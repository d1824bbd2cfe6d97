/- What is proved here: the program's (fromTo).written hands back its text; nothing that was there turns. -/
import Derived.Test.YtkkijmbpcffadajDoorOftM
import Derived.Test.YtkkijmbpcffadajDoorFmtW
import Derived.Deep.QuietTactic
import Derived.BigQuiet
namespace Go.Proofs.YtkkijmbpcffadajDoor
open Go.RowKit

set_option maxRecDepth 100000 in
set_option maxHeartbeats 4000000 in
theorem fromTo_any (k j : Nat) (hk : k ≤ 20) (hj : j ≤ 20) (w : World) : Calls Tryd.prog 123 #[.agg #[.int .i64 (k : Int), .int .i64 (j : Int)]] w fun e w' => e = .returned (.string (((((⟨#[123]⟩ : ByteArray) ++ decT k) ++ ⟨#[44]⟩) ++ decT j) ++ ⟨#[125]⟩)) ∧ Below w.heap.size w w' := by
  have hz := decT_size k
  have hzj := decT_size j
  have hz2 : ((⟨#[123]⟩ : ByteArray) ++ decT k).size = 1 + (decT k).size := ByteArray.size_append
  have hz3 : (((⟨#[123]⟩ : ByteArray) ++ decT k) ++ (⟨#[44]⟩ : ByteArray)).size = ((⟨#[123]⟩ : ByteArray) ++ decT k).size + 1 := ByteArray.size_append
  have hz4 : ((((⟨#[123]⟩ : ByteArray) ++ decT k) ++ (⟨#[44]⟩ : ByteArray)) ++ decT j).size = (((⟨#[123]⟩ : ByteArray) ++ decT k) ++ (⟨#[44]⟩ : ByteArray)).size + (decT j).size := ByteArray.size_append
  have BX : Hid (Below w.heap.size w (w.alloc (.cells #[.int .i64 (k : Int), .int .i64 (j : Int)] 74))) := (Below.refl _ _).alloc (Nat.le_refl _) _
  have c0 : (w.alloc (.cells #[.int .i64 (k : Int), .int .i64 (j : Int)] 74)).cell? ⟨w.heap.size, 0, none⟩ = some (.int .i64 (k : Int)) := by simp
  have c1 : (w.alloc (.cells #[.int .i64 (k : Int), .int .i64 (j : Int)] 74)).cell? ⟨w.heap.size, 1, none⟩ = some (.int .i64 (j : Int)) := by simp
  have hsz : w.heap.size < (w.alloc (.cells #[.int .i64 (k : Int), .int .i64 (j : Int)] 74)).heap.size := by simp
  go_enter Tryd.func123, Tryd.ntmps123
  go_wp2
  generalize w.alloc (.cells #[.int .i64 (k : Int), .int .i64 (j : Int)] 74) = v at *
  go_quiet (first | (go_at_call 110; exact Calls.quiet_of_same (fmt_any _ (by first | exact hk | exact hj) _)))
  all_goals
    go_wp2
    go_ret
    exact ⟨rfl, ⟨BX.out.os, BX.out.tape, BX.out.output, BX.out.size, BX.out.block⟩⟩
end Go.Proofs.YtkkijmbpcffadajDoor
