/- What is proved here: bitsOn's contract for whatever vector: all bits of a right one, none of another. -/
import Derived.Test.YtcmnmlginoojkagDoorBitsRunW
namespace Go.Proofs.YtcmnmlginoojkagDoor
open Go.RowKit Go.Shelf

theorem bits_stops (n Bv n₀ : Nat) (hn : 1 ≤ n) (b : Int) (sa : Option Addr) (m cap : Nat) (f : Nat → Int) (L : List Int) (hL : Come b m f L) (w : World) (hBx : Boxed w Bv 27 b sa m cap) (hm : m ≤ 1048576) (hr : Row w n₀ sa m f) (hp0 : 0 < n₀) (hle : n₀ ≤ w.heap.size) (hT : Tab w) :
    SeqStopsK Fence.wide n Tryd.prog 17 #[.pointer (some ⟨Bv, 0, none⟩)] (fun x : Int => #[Value.int .i64 x]) (Below n₀) (fun ys => ys = L) (fun pre => ∃ r, L = pre ++ r) 320 w := fun l J Jx W hW hJ _ hY h0 => by
  have hBx' := hBx.kept hW rfl
  have hr' : Row W n₀ sa m f := hr.kept (hW.mono hle)
  have hT' := hT.kept (hW.mono hle) hp0
  have hle' : n₀ ≤ W.heap.size := Nat.le_trans hle hW.size
  by_cases h : Right b m f
  · obtain rfl := hL.1 h
    refine (bitsOn1_in n l Bv n₀ b sa m cap f J Jx W hJ hn hY hBx' hm h hr' hp0 hle' hT' h0).mono ?_
    rintro e W' ⟨he, ⟨ys, rfl, hj⟩ | ⟨pre, ⟨k, hk, rfl⟩, hj⟩⟩
    · exact ⟨he, .inl ⟨_, rfl, hj⟩⟩
    · exact ⟨he, .inr ⟨_, bitsL_pre f k _ hk, hj⟩⟩
  · obtain rfl := hL.2 h
    refine (bitsOn1_no n l Bv b sa m cap f J W hJ hn hBx' hm h (hr'.up hle') h0).mono ?_
    rintro e W' ⟨he, hj⟩
    exact ⟨he, .inl ⟨_, rfl, hj⟩⟩
end Go.Proofs.YtcmnmlginoojkagDoor
