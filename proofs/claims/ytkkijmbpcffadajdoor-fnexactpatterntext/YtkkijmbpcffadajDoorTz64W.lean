/- What is proved here: math/bits.TrailingZeros64 of a word that is not 0 is the number of its lowest bit, where the table of the library lies as its initialiser lays it; the world stays. -/
import Derived.Test.YtkkijmbpcffadajDoorSet64M
import Derived.Shelf.Spec.TrailingZeros
namespace Go.Proofs.YtkkijmbpcffadajDoor
open Go.RowKit

/-- The library's table. -/
def Tab64 (w : World) : Prop := TabAt 1 Lib.deBruijn64tab w
theorem Tab64.kept {w W : World} {B : Nat} (h : Tab64 w) (hb : Below B w W) (h0 : 1 < B) : Tab64 W := fun j hj => by
  rw [hb.cell (p := ⟨1, j, none⟩) h0]
  exact h j hj
set_option maxHeartbeats 1000000 in
theorem tz64_core (x k idx : Nat) (w : World) (hx0 : ((x : Int) == 0) = false)
    (key : IntKind.u64.wrap (bits BinOp.and IntKind.u64 (x : Int) (IntKind.u64.wrap (-(x : Int))) * 285870213051353865) / 288230376151711744 = (idx : Int))
    (hi : idx < 64) (hk : k < 64) (hcell : w.cell? ⟨1, idx, none⟩ = some (.int .u8 k)) :
    Calls Tryd.prog 79 #[.int .u64 x] w fun e w' => e = .returned (.int .i64 k) ∧ w' = w := by
  go_enter Tryd.func79, Tryd.ntmps79
  go_wp2_with (simp only [key])
  go_ret
  exact ⟨rfl, rfl⟩
theorem tz64_any (x : Nat) (hx : x < 18446744073709551616) (hx0 : x ≠ 0) (w : World) (hT : Tab64 w) :
    Calls Tryd.prog 79 #[.int .u64 x] w fun e w' => e = .returned (.int .i64 (Lib.ctz 64 x)) ∧ w' = w := by
  obtain ⟨hlow, hk⟩ := Lib.lowest_bit 64 x hx0 hx
  obtain ⟨hi, htab⟩ := Lib.deBruijn64_at _ hk
  have hcell := hT _ hi
  rw [htab] at hcell
  exact tz64_core x _ _ w (by simp; omega) (tz64_key x _ hx hx0 hlow) hi hk hcell
end Go.Proofs.YtkkijmbpcffadajDoor
