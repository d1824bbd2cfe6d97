/- What is proved here: impl.joined hands back its two texts put together, in new memory; nothing that was there turns. Its one condition: the two texts have together at most a hundred million bytes. -/
import Derived.Test.YtpdedggnjcnpgaaDoorProg
import Derived.WalkKit
import Derived.Lib.SlBuf
import Derived.Lib.LazyBuf
import Derived.Laws.BytesArg
namespace Go.Proofs.YtpdedggnjcnpgaaDoor
open Go.RowKit Go.Lib

theorem strOfNums_bytes (l : List UInt8) : strOfNums (l.map fun b => (b.toNat : Int)) = ⟨l.toArray⟩ := by
  unfold strOfNums
  rw [List.map_map]
  congr 2
  rw [show ((fun n : Int => UInt8.ofNat n.toNat) ∘ fun b : UInt8 => (b.toNat : Int)) = id from by funext b; simp]
  simp

/-- 'copy(all[n:], t)', t a text that fits. -/
theorem copy_string_part {P : Program} (w0 wr : World) (h N : Nat) (acc : List UInt8) (t : ByteArray) (T S ty e : TypeId) (hu : P.underlying T = some (.slice e)) (hz : ∀ w, (Go.sizeOf e).run P w = .ok 1 w) (hs : (P.info? e).map (·.size) = some 1)
    (hb : Buf w0 wr h N acc) (hfit : acc.length + t.size ≤ N) :
    ∃ wr', (Builtin.copy_ #[T, S] ty #[tailV h N acc.length, .string t]).run P wr = .ok (.int .i64 (t.size : Int)) wr' ∧ Buf w0 wr' h N (acc ++ t.data.toList) := by
  have hl : t.data.toList.length = t.size := (size_eq t).symm
  by_cases h0 : t.size = 0
  · have hn : t.data.toList = [] := List.length_eq_zero_iff.1 (by omega)
    refine ⟨wr, ?_, by rw [hn]; simpa using hb⟩
    have hq : ((P.info? e).map (·.size)).isSome = true := by rw [hs]; rfl
    cases hi : P.info? e with
    | none => simp [hi] at hs
    | some i =>
      unfold tailV
      simp [Builtin.copy_, run_underlying hu, Builtin.lenOf, Builtin.firstCells, sizeOf, typeInfo, hi, h0, storeCells, goInt]
  · have hne : ¬ N = acc.length := by omega
    have hr := run_copy_string (P := P) wr T S ty e h acc.length (N - acc.length) (N - acc.length) t hu hz (by omega) (fun j hj => hb.there _ (by omega)) (fun j hj => hb.free _ (by omega))
    refine ⟨_, by unfold tailV; rw [if_neg hne]; exact hr, ?_⟩
    have hin := World.cell?_setCells_in h (t.data.toList.map fun x => Value.int .u8 (x.toNat : Int)) acc.length wr (fun j hj => by rw [List.length_map] at hj; exact hb.there _ (by omega))
    have hout := World.cell?_setCells_out h (t.data.toList.map fun x => Value.int .u8 (x.toNat : Int)) acc.length wr
    refine ⟨?_, ?_, ?_, ?_, by rw [List.length_append]; omega⟩
    · exact Lib.below_setCells h (Nat.le_refl _) _ _ hb.below
    · intro j hj
      by_cases h1 : acc.length ≤ j ∧ j < acc.length + t.data.toList.length
      · obtain ⟨d, rfl⟩ : ∃ d, j = acc.length + d := ⟨j - acc.length, by omega⟩
        rw [hin d (by rw [List.length_map]; omega)]
        rfl
      · rw [hout ⟨h, j, none⟩ (fun _ _ => by rw [List.length_map]; show j < _ ∨ _ ≤ j; omega)]
        exact hb.there j hj
    · intro j hj
      rw [World.frozen?_setCells]
      exact hb.free j hj
    · intro j x hx
      by_cases h1 : j < acc.length
      · rw [List.getElem?_append_left h1] at hx
        rw [hout ⟨h, j, none⟩ (fun _ _ => Or.inl h1)]
        exact hb.holds j x hx
      · rw [List.getElem?_append_right (by omega)] at hx
        obtain ⟨d, rfl⟩ : ∃ d, j = acc.length + d := ⟨j - acc.length, by omega⟩
        rw [Nat.add_sub_cancel_left] at hx
        have hd : d < t.data.toList.length := (List.getElem?_eq_some_iff.1 hx).1
        rw [hin d (by rw [List.length_map]; exact hd)]
        simp [List.getElem_map, (List.getElem?_eq_some_iff.1 hx).2]

theorem join_eq (a b : ByteArray) : (⟨(a.data.toList ++ b.data.toList).toArray⟩ : ByteArray) = a ++ b := by
  apply ByteArray.ext
  simp
theorem ret_string {a b : ByteArray} (h : a = b) : Ending.returned (.string a) = .returned (.string b) := by rw [h]

theorem Tryd.elemInfo : (Tryd.prog.info? 5).map (fun i => (i.zero, i.size, i.bytes)) = some (some (.int .u8 0), 1, 1) := by kernel_rfl
theorem Tryd.elemSize (w : World) : (Go.sizeOf 5).run Tryd.prog w = .ok 1 w := by kernel_rfl

theorem make_bytes (w : World) (N : Nat) (hN : N ≤ 100000000) : ∃ C : Array Value, C.size = N ∧
    (Instr.makeSlice 22 (.int .i64 (N : Int)) (.int .i64 (N : Int))).run Tryd.prog w = .ok (.slice (some ⟨w.heap.size, 0, none⟩) N N) (w.alloc (.cells C 5)) := by
  obtain ⟨i0, hi, hz0, hz1, hz2⟩ := info_parts Tryd.elemInfo
  refine ⟨madeCells (Value.int .u8 0).cells (N * 1), by rw [size_madeCells]; omega, ?_⟩
  have h := run_make (P := Tryd.prog) w 22 5 i0 (.int .u8 0) Tryd.underlying22 hi hz0 .i64 .i64 (N : Int) (N : Int) (by omega) (by omega) (by rw [hz2]; omega) (by omega)
  rw [h, hz1]
  simp

set_option maxHeartbeats 1000000 in
theorem joined_any (a b : ByteArray) (w : World) (hab : a.size + b.size ≤ 100000000) :
    Calls Tryd.prog 21 #[.string a, .string b] w fun e w' => e = .returned (.string (a ++ b)) ∧ Below w.heap.size w w' := by
  obtain ⟨C, hC, hmk⟩ := make_bytes w (a.size + b.size) hab
  have hB0 : Buf w (w.alloc (.cells C 5)) w.heap.size (a.size + b.size) [] := by
    exact Buf.start w C 5 (a.size + b.size) 0 (by omega)
  obtain ⟨w1, hr1, hB1⟩ := copy_string_part (P := Tryd.prog) w _ w.heap.size (a.size + b.size) [] a 22 9 3 5 Tryd.underlying22 Tryd.elemSize (by kernel_rfl) hB0 (by simp)
  rw [List.nil_append] at hB1
  have hsa := size_eq a
  obtain ⟨w2, hr2, hB2⟩ := copy_string_part (P := Tryd.prog) w w1 w.heap.size (a.size + b.size) a.data.toList b 22 9 3 5 Tryd.underlying22 Tryd.elemSize (by kernel_rfl) hB1 (by omega)
  rw [← hsa] at hr2
  have hsl := Lib.run_slice_tailV (P := Tryd.prog) w1 22 5 Tryd.underlying22 Tryd.elemSize w.heap.size (a.size + b.size) a.size (by omega)
  have hcv := run_convert_bytes_arg (P := Tryd.prog) w2 22 5 Tryd.underlying22 Tryd.underlying5 w.heap.size 0 (a.size + b.size) (a.size + b.size) ((a.data.toList ++ b.data.toList).map fun x => (x.toNat : Int)) (by rw [List.length_map, List.length_append, ← size_eq, ← size_eq]) (fun i hi => by
      have hi' : i < (a.data.toList ++ b.data.toList).length := by rw [List.length_append, ← size_eq, ← size_eq]; exact hi
      rw [Nat.zero_add, hB2.holds i _ (List.getElem?_eq_getElem hi'), List.getD, List.getElem?_map, List.getElem?_eq_getElem hi']
      rfl) 9 Tryd.underlying9
  rw [strOfNums_bytes] at hcv
  have hbel := hB2.below
  clear hB0 hB1 hB2
  have HB : Hid (Below w.heap.size w w2) := hbel
  clear hbel hsa
  simp only [List.length_nil, tailV_zero] at hr1
  have e1 : ((a.size + b.size : Nat) : Int) = (a.size : Int) + (b.size : Int) := by omega
  rw [e1] at hmk
  clear e1
  go_enter Tryd.func21, Tryd.ntmps21
  go_wp2_with (first | (at_builtin; refine Lib.wpList_copy_run _ rfl (.tmp 13) (.tmp 14) 22 9 rfl _ _ rfl rfl hr1 ?_) | (at_builtin; refine Lib.wpList_copy_run _ rfl (.tmp 18) (.tmp 19) 22 9 rfl _ _ rfl rfl hr2 ?_))
  go_ret
  exact ⟨ret_string (join_eq a b), HB.out⟩
end Go.Proofs.YtpdedggnjcnpgaaDoor
