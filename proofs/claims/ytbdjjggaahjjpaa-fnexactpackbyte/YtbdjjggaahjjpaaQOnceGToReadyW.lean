/- What is proved here: the parts of sync.Once's two roads at a free lock, one goroutine.
   What is said here: a row whose table is not made yet, or is made. -/
import Derived.Test.YtbdjjggaahjjpaaProg
import Derived.WalkKit
import Derived.Defers
import Derived.Laws.Pointers
import Derived.Laws.LoneSync
import Derived.RegionCalls
import Derived.RegionTactic
import Derived.BigRegion
import Derived.Test.YtbdjjggaahjjpaaQFillM
namespace Go.Proofs.Ytbdjjggaahjjpaa
open Go.RowKit

theorem mkDisable (w : World) : (callFunc 111 #[]).run Try.prog w = .ok (.value (.tuple #[])) w := run_call_mark0 Try.func111 (by kernel_rfl) (by kernel_rfl) (by kernel_rfl) .disable (by kernel_rfl) w
theorem mkEnable (w : World) : (callFunc 113 #[]).run Try.prog w = .ok (.value (.tuple #[])) w := run_call_mark0 Try.func113 (by kernel_rfl) (by kernel_rfl) (by kernel_rfl) .enable (by kernel_rfl) w
theorem mkAcquire (a : Addr) (w : World) : (callFunc 114 #[.pointer (some a)]).run Try.prog w = .ok (.value (.tuple #[])) w := run_call_marked Try.func114 (by kernel_rfl) (by kernel_rfl) (by kernel_rfl) .acquire (by kernel_rfl) a w
theorem mkRelease (a : Addr) (w : World) : (callFunc 116 #[.pointer (some a)]).run Try.prog w = .ok (.value (.tuple #[])) w := run_call_marked Try.func116 (by kernel_rfl) (by kernel_rfl) (by kernel_rfl) .releaseMerge (by kernel_rfl) a w
theorem store_deferred (a : Addr) (x : Value) (u : FrameMode) (w : World) (hc : w.cell? a = some x) (hz : w.frozen? a = false) :
    CallsD Try.prog 106 #[.pointer (some a), .bool true] u w fun e u' w' => u' = u ∧ (e = .returned (.tuple #[]) ∧ w' = w.drew.setCell a (.int .u32 1)) := by
  have hc' : w.drew.cell? a = some x := by go_simp
  have hz' : w.drew.frozen? a = false := by go_simp
  have hst := run_call_store (P := Try.prog) Try.func109 (by kernel_rfl) (by kernel_rfl) (by kernel_rfl) (by kernel_rfl) (k := .u32) (y := 1) hc' hz'
  go_enter_d Try.func106, Try.ntmps106
  go_wp2
  go_region_calls
  all_goals (go_end0; exact ⟨rfl, rfl⟩)
set_option maxRecDepth 100000 in
set_option maxHeartbeats 1600000 in
theorem unlock_deferred (a : Addr) (u : FrameMode) (w : World) (hc : w.cell? a = some (.int .i32 1)) (hz : w.frozen? a = false) :
    CallsD Try.prog 105 #[.pointer (some a)] u w fun e u' w' => u' = u ∧ (e = .returned (.tuple #[]) ∧ w' = w.setCell a (.int .i32 0)) := by
  have hd := mkDisable
  have he := mkEnable
  have hr := mkRelease
  have hadd := run_call_add (P := Try.prog) Try.func117 (by kernel_rfl) (by kernel_rfl) (by kernel_rfl) .i32 (by kernel_rfl) (y := -1) (s := 0) hc hz (by simp [go_sem]; rfl)
  have hcv := run_convert_to_unsafe (P := Try.prog) (src := 143) (dst := 147) Try.underlying143 Try.underlying147 (by kernel_rfl) hc
  go_enter_d Try.func105, Try.ntmps105
  go_wp2
  go_end0
  go_wp2
  go_end0
  exact ⟨rfl, rfl⟩
set_option maxRecDepth 100000 in
set_option maxHeartbeats 1600000 in
theorem lock_free (a : Addr) (w : World) (hc : w.cell? a = some (.int .i32 0)) (hz : w.frozen? a = false) :
    Calls Try.prog 104 #[.pointer (some a)] w fun e w' => e = .returned (.tuple #[]) ∧ w' = w.setCell a (.int .i32 1) := by
  have hd := mkDisable
  have he := mkEnable
  have ha := mkAcquire
  have hcas := run_call_cas_hit (P := Try.prog) Try.func112 (by kernel_rfl) (by kernel_rfl) (by kernel_rfl) .i32 (by kernel_rfl) (y := 1) hc hz
  have hc' : (w.setCell a (.int .i32 1)).cell? a = some (.int .i32 1) := World.cell?_setCell_same w a _ hc
  have hcv := run_convert_to_unsafe (P := Try.prog) (src := 143) (dst := 147) Try.underlying143 Try.underlying147 (by kernel_rfl) hc'
  go_enter Try.func104, Try.ntmps104
  go_wp2
  first | go_end0 | (simp only [Exit.inBlock, Exit.then]; refine bodyPost_ret (results_none rfl _ _ _) rfl ?_) | refine bodyPost_ret (results_none rfl _ _ _) rfl ?_
  go_wp2
  go_end0
  exact ⟨rfl, rfl⟩
theorem do_done (a : Addr) (fv : Value) (w : World) (h0 : w.cell? a = some (.int .u32 1)) :
    Calls Try.prog 97 #[.pointer (some a), fv] w fun e w' => e = .returned (.tuple #[]) ∧ w' = w := by
  have hl := run_call_load (P := Try.prog) Try.func103 (by kernel_rfl) (by kernel_rfl) (by kernel_rfl) .u32 (by kernel_rfl) h0
  have hnot : ∀ (x : Bool) (w : World), (Op.unary .not (.bool x)).run Try.prog w = .ok (.bool (!x)) w := fun _ _ => rfl
  have hd' : ((1 : Int) != 0) = true := by simp
  go_enter Try.func97, Try.ntmps97
  go_wp2
  go_end0
  exact ⟨rfl, rfl⟩
end Go.Proofs.Ytbdjjggaahjjpaa
namespace Go.Proofs.Ytbdjjggaahjjpaa
open Go.RowKit

/-- A row that is ready: its table is not made yet, or it is made. -/
def Ready (W : World) (b : Nat) (sa : Option Addr) (n cap sk lo : Nat) (f : Nat → Cel) : Prop := KRow W b sa n cap sk lo 0 0 (fun _ => 0) ∨ ∃ tab, KRow W b sa n cap sk lo 1 0 tab ∧ TabAt f n tab
theorem Ready.cells {W : World} {b : Nat} {sa : Option Addr} {n cap sk lo : Nat} {f : Nat → Cel} (h : Ready W b sa n cap sk lo f) : W.cell? ⟨b, 1, none⟩ = some (.int .u64 (sk : Int)) ∧ W.cell? ⟨b, 2, none⟩ = some (.int .u64 (lo : Int)) ∧ b < W.heap.size := by
  rcases h with h | ⟨tab, h, _⟩
  · exact ⟨h.c1, h.c2, h.lt⟩
  · exact ⟨h.c1, h.c2, h.lt⟩
theorem Ready.kept {W W' : World} {B b : Nat} {sa : Option Addr} {n cap sk lo : Nat} {f : Nat → Cel} (h : Ready W b sa n cap sk lo f) (hb : Below B W W') (hB : b < B) : Ready W' b sa n cap sk lo f := by
  rcases h with h | ⟨tab, h, h2⟩
  · exact Or.inl (h.kept hb hB)
  · exact Or.inr ⟨tab, h.kept hb hB, h2⟩
end Go.Proofs.Ytbdjjggaahjjpaa
