/- What is proved here: one operation alone, at a frame that is a variable: a load of a vector, a new box, a store of a vector, a call. -/
import Derived.Test.YthnnenbpbkmbhaaDoorQInvW
import Derived.Test.YthnnenbpbkmbhaaDoorQRowsDToVecS
namespace Go.Proofs.YthnnenbpbkmbhaaDoor
open Go.RowKit

section
variable {gd : Option (Nat × Bool)} {ac : Act} {W : World} {K : Act → World → Prop} {Q : Exit → Act → World → Prop}
theorem op_load {t d ty : Nat} {po : String} {af : Array _} {p : Nat} {b : Int} {s : Option Addr} {n c : Nat} (he : ac.tmps[t]? = some (.pointer (some ⟨p, 0, none⟩))) (h0 : W.cell? ⟨p, 0, none⟩ = some (.int .i64 b)) (h1 : W.cell? ⟨p, 1, none⟩ = some (.slice s n c)) (hK : K (ac.put (some d) (.agg #[.int .i64 b, .slice s n c])) W) :
    Oper.wp Tryd.prog { dst := some d, op := .load 25 (.tmp t), type := ty, pos := po, after := af, guard := gd } ac W K Q := by
  unfold Oper.wp
  go_simp
  exact hK
theorem op_alloc {d ty : Nat} {po : String} {af : Array _} (hK : K (ac.put (some d) (.pointer (some ⟨W.heap.size, 0, none⟩))) (W.alloc (.cells #[.int .i64 0, .slice none 0 0] 25))) :
    Oper.wp Tryd.prog { dst := some d, op := .alloc 25, type := ty, pos := po, after := af, guard := gd } ac W K Q := by
  unfold Oper.wp
  go_simp
  exact hK
theorem op_store {t u ty : Nat} {po : String} {af : Array _} {p : Nat} {b : Int} {s : Option Addr} {n c : Nat} {b0 : Value} {b1 : Value} (he : ac.tmps[t]? = some (.pointer (some ⟨p, 0, none⟩))) (hu : ac.tmps[u]? = some (.agg #[.int .i64 b, .slice s n c])) (h0 : W.cell? ⟨p, 0, none⟩ = some b0) (h1 : W.cell? ⟨p, 1, none⟩ = some b1) (f0 : W.frozen? ⟨p, 0, none⟩ = false) (f1 : W.frozen? ⟨p, 1, none⟩ = false) (hK : K ac ((W.setCell ⟨p, 0, none⟩ (.int .i64 b)).setCell ⟨p, 1, none⟩ (.slice s n c))) :
    Oper.wp Tryd.prog { dst := none, op := .store 25 (.tmp t) (.tmp u), type := ty, pos := po, after := af, guard := gd } ac W K Q := by
  unfold Oper.wp
  go_simp
  exact hK
theorem op_call2 {t u d f ty : Nat} {po : String} {af : Array _} {at' : Array TypeId} {v1 v2 : Value} (h1 : ac.tmps[t]? = some (v1)) (h2 : ac.tmps[u]? = some (v2)) (hc : ∀ args W, (callFunc f args).run Tryd.prog W = .ok (.enter f args) W) (hK : Calls Tryd.prog f #[v1, v2] W fun e w' => ∃ v, e = .returned v ∧ K (ac.put (some d) v) w') :
    Oper.wp Tryd.prog { dst := some d, op := .call { callee := .value (.func f), args := #[.tmp t, .tmp u], argTypes := at' }, type := ty, pos := po, after := af, guard := gd } ac W K Q := by
  unfold Oper.wp
  go_simp
  refine hK.mono ?_
  rintro e w' ⟨v, rfl, hv⟩
  exact hv
theorem op_call1 {t d f ty : Nat} {po : String} {af : Array _} {at' : Array TypeId} {v1 : Value} (h1 : ac.tmps[t]? = some (v1)) (hc : ∀ args W, (callFunc f args).run Tryd.prog W = .ok (.enter f args) W) (hK : Calls Tryd.prog f #[v1] W fun e w' => ∃ v, e = .returned v ∧ K (ac.put (some d) v) w') :
    Oper.wp Tryd.prog { dst := some d, op := .call { callee := .value (.func f), args := #[.tmp t], argTypes := at' }, type := ty, pos := po, after := af, guard := gd } ac W K Q := by
  unfold Oper.wp
  go_simp
  refine hK.mono ?_
  rintro e w' ⟨v, rfl, hv⟩
  exact hv
theorem op_move {t d ty : Nat} {po : String} {af : Array _} {v : Value} (he : ac.tmps[t]? = some v) (hK : K (ac.put (some d) v) W) :
    Oper.wp Tryd.prog { dst := some d, op := .move (.tmp t), type := ty, pos := po, after := af, guard := gd } ac W K Q := by
  unfold Oper.wp
  go_simp
  exact hK
theorem op_not {t d ty : Nat} {po : String} {af : Array _} {b : Bool} (he : ac.tmps[t]? = some (.bool b)) (hK : K (ac.put (some d) (.bool (!b))) W) :
    Oper.wp Tryd.prog { dst := some d, op := .unOp .not 4 (.tmp t), type := ty, pos := po, after := af, guard := gd } ac W K Q := by
  unfold Oper.wp
  go_simp
  exact hK
theorem op_neqI {t u d ty : Nat} {po : String} {af : Array _} {x : Int} (he : ac.tmps[t]? = some (.int .i64 x)) (hu : ac.tmps[u]? = some (.int .i64 x)) (hK : K (ac.put (some d) (.bool false)) W) :
    Oper.wp Tryd.prog { dst := some d, op := .binOp .neq 2 (.tmp t) (.tmp u) 2, type := ty, pos := po, after := af, guard := gd } ac W K Q := by
  unfold Oper.wp
  go_simp
  exact hK
theorem op_neqB {t u d ty : Nat} {po : String} {af : Array _} {x y : Bool} (he : ac.tmps[t]? = some (.bool x)) (hu : ac.tmps[u]? = some (.bool y)) (hK : K (ac.put (some d) (.bool (x != y))) W) :
    Oper.wp Tryd.prog { dst := some d, op := .binOp .neq 4 (.tmp t) (.tmp u) 4, type := ty, pos := po, after := af, guard := gd } ac W K Q := by
  unfold Oper.wp
  go_simp
  have e : (x != y) = !(x == y) := rfl
  rw [e] at hK
  exact hK
theorem op_neqBs {t u d ty : Nat} {po : String} {af : Array _} {x : Bool} (he : ac.tmps[t]? = some (.bool x)) (hu : ac.tmps[u]? = some (.bool x)) (hK : K (ac.put (some d) (.bool false)) W) :
    Oper.wp Tryd.prog { dst := some d, op := .binOp .neq 4 (.tmp t) (.tmp u) 4, type := ty, pos := po, after := af, guard := gd } ac W K Q := by
  refine op_neqB he hu ?_
  have e : (x != x) = false := by cases x <;> rfl
  rw [e]
  exact hK
theorem op_pickAnd1 {c t d ty : Nat} {po : String} {af : Array _} {v : Value} (hc : ac.tmps[c]? = some (.bool true)) (ht : ac.tmps[t]? = some v) (hK : K (ac.put (some d) v) W) :
    Oper.wp Tryd.prog { dst := some d, op := .pick (.tmp c) (.tmp t) (.const (.bool false)), type := ty, pos := po, after := af, guard := gd } ac W K Q := by
  unfold Oper.wp
  go_simp
  exact hK
theorem op_pickAnd0 {c t d ty : Nat} {po : String} {af : Array _} (hc : ac.tmps[c]? = some (.bool false)) (hK : K (ac.put (some d) (.bool false)) W) :
    Oper.wp Tryd.prog { dst := some d, op := .pick (.tmp c) (.tmp t) (.const (.bool false)), type := ty, pos := po, after := af, guard := gd } ac W K Q := by
  unfold Oper.wp
  go_simp
  exact hK
theorem op_pickOr1 {c t d ty : Nat} {po : String} {af : Array _} (hc : ac.tmps[c]? = some (.bool true)) (hK : K (ac.put (some d) (.bool true)) W) :
    Oper.wp Tryd.prog { dst := some d, op := .pick (.tmp c) (.const (.bool true)) (.tmp t), type := ty, pos := po, after := af, guard := gd } ac W K Q := by
  unfold Oper.wp
  go_simp
  exact hK
theorem op_field {t d ty p : Nat} {po : String} {af : Array _} (he : ac.tmps[t]? = some (.pointer (some ⟨p, 0, none⟩))) (hK : K (ac.put (some d) (.pointer (some ⟨p, 0, none⟩))) W) :
    Oper.wp Tryd.prog { dst := some d, op := .fieldAddr 25 (.tmp t) 0, type := ty, pos := po, after := af, guard := gd } ac W K Q := by
  unfold Oper.wp
  go_simp
  exact hK
theorem op_loadI {t d ty p : Nat} {po : String} {af : Array _} {b : Int} (he : ac.tmps[t]? = some (.pointer (some ⟨p, 0, none⟩))) (h0 : W.cell? ⟨p, 0, none⟩ = some (.int .i64 b)) (hK : K (ac.put (some d) (.int .i64 b)) W) :
    Oper.wp Tryd.prog { dst := some d, op := .load 2 (.tmp t), type := ty, pos := po, after := af, guard := gd } ac W K Q := by
  unfold Oper.wp
  go_simp
  exact hK
theorem op_eqlI {t u d ty : Nat} {po : String} {af : Array _} {x y : Int} {r : Bool} (he : ac.tmps[t]? = some (.int .i64 x)) (hu : ac.tmps[u]? = some (.int .i64 y)) (hr : (x == y) = r) (hK : K (ac.put (some d) (.bool r)) W) :
    Oper.wp Tryd.prog { dst := some d, op := .binOp .eql 2 (.tmp t) (.tmp u) 2, type := ty, pos := po, after := af, guard := gd } ac W K Q := by
  subst hr
  unfold Oper.wp
  go_simp
  exact hK
theorem op_eqlB {t u d ty : Nat} {po : String} {af : Array _} {x y : Bool} {r : Bool} (he : ac.tmps[t]? = some (.bool x)) (hu : ac.tmps[u]? = some (.bool y)) (hr : (x == y) = r) (hK : K (ac.put (some d) (.bool r)) W) :
    Oper.wp Tryd.prog { dst := some d, op := .binOp .eql 4 (.tmp t) (.tmp u) 4, type := ty, pos := po, after := af, guard := gd } ac W K Q := by
  subst hr
  unfold Oper.wp
  go_simp
  exact hK
theorem op_less1 {t d ty : Nat} {po : String} {af : Array _} {x : Int} (he : ac.tmps[t]? = some (.int .i64 x)) (h0 : -1000 ≤ x) (h1 : x ≤ 1000) (hK : K (ac.put (some d) (.int .i64 (x - 1))) W) :
    Oper.wp Tryd.prog { dst := some d, op := .binOp .sub 2 (.tmp t) (.const (.int .i64 1)) 2, type := ty, pos := po, after := af, guard := gd } ac W K Q := by
  have e : IntKind.i64.wrap (x - 1) = x - 1 := by rw [IntKind.wrap_i64] <;> omega
  unfold Oper.wp
  go_simp
  exact hK
theorem op_pickOr {c t d ty : Nat} {po : String} {af : Array _} {v : Value} (hc : ac.tmps[c]? = some (.bool false)) (ht : ac.tmps[t]? = some v) (hK : K (ac.put (some d) v) W) :
    Oper.wp Tryd.prog { dst := some d, op := .pick (.tmp c) (.const (.bool true)) (.tmp t), type := ty, pos := po, after := af, guard := gd } ac W K Q := by
  unfold Oper.wp
  go_simp
  exact hK
theorem op_call3 {t u q d f ty : Nat} {po : String} {af : Array _} {at' : Array TypeId} {v1 v2 v3 : Value} (h1 : ac.tmps[t]? = some (v1)) (h2 : ac.tmps[u]? = some (v2)) (h3 : ac.tmps[q]? = some (v3)) (hc : ∀ args W, (callFunc f args).run Tryd.prog W = .ok (.enter f args) W) (hK : Calls Tryd.prog f #[v1, v2, v3] W fun e w' => ∃ v, e = .returned v ∧ K (ac.put (some d) v) w') :
    Oper.wp Tryd.prog { dst := some d, op := .call { callee := .value (.func f), args := #[.tmp t, .tmp u, .tmp q], argTypes := at' }, type := ty, pos := po, after := af, guard := gd } ac W K Q := by
  unfold Oper.wp
  go_simp
  refine hK.mono ?_
  rintro e w' ⟨v, rfl, hv⟩
  exact hv
end
theorem enter_and (args : Array Value) (W : World) : (callFunc 9 args).run Tryd.prog W = .ok (.enter 9 args) W := by kernel_rfl
theorem enter_or (args : Array Value) (W : World) : (callFunc 10 args).run Tryd.prog W = .ok (.enter 10 args) W := by kernel_rfl
theorem enter_xor (args : Array Value) (W : World) : (callFunc 11 args).run Tryd.prog W = .ok (.enter 11 args) W := by kernel_rfl
theorem enter_not (args : Array Value) (W : World) : (callFunc 12 args).run Tryd.prog W = .ok (.enter 12 args) W := by kernel_rfl
theorem enter_laws_lwVec (args : Array Value) (W : World) : (callFunc 14 args).run Tryd.prog W = .ok (.enter 14 args) W := by kernel_rfl
theorem enter_spec_VecAnd (args : Array Value) (W : World) : (callFunc 15 args).run Tryd.prog W = .ok (.enter 15 args) W := by kernel_rfl
theorem enter_spec_VecOr (args : Array Value) (W : World) : (callFunc 16 args).run Tryd.prog W = .ok (.enter 16 args) W := by kernel_rfl
theorem enter_spec_VecXor (args : Array Value) (W : World) : (callFunc 17 args).run Tryd.prog W = .ok (.enter 17 args) W := by kernel_rfl
theorem enter_spec_VecNot (args : Array Value) (W : World) : (callFunc 18 args).run Tryd.prog W = .ok (.enter 18 args) W := by kernel_rfl
theorem enter_spec_VecSet (args : Array Value) (W : World) : (callFunc 19 args).run Tryd.prog W = .ok (.enter 19 args) W := by kernel_rfl
theorem enter_impl_VecNew (args : Array Value) (W : World) : (callFunc 20 args).run Tryd.prog W = .ok (.enter 20 args) W := by kernel_rfl
theorem enter_spec_VecNew (args : Array Value) (W : World) : (callFunc 21 args).run Tryd.prog W = .ok (.enter 21 args) W := by kernel_rfl
theorem enter_impl_VecSub (args : Array Value) (W : World) : (callFunc 22 args).run Tryd.prog W = .ok (.enter 22 args) W := by kernel_rfl
theorem enter_spec_VecSub (args : Array Value) (W : World) : (callFunc 23 args).run Tryd.prog W = .ok (.enter 23 args) W := by kernel_rfl
theorem enter_impl_VecUp (args : Array Value) (W : World) : (callFunc 24 args).run Tryd.prog W = .ok (.enter 24 args) W := by kernel_rfl
theorem enter_spec_VecUp (args : Array Value) (W : World) : (callFunc 25 args).run Tryd.prog W = .ok (.enter 25 args) W := by kernel_rfl
theorem enter_impl_VecLow (args : Array Value) (W : World) : (callFunc 26 args).run Tryd.prog W = .ok (.enter 26 args) W := by kernel_rfl
theorem enter_spec_VecLow (args : Array Value) (W : World) : (callFunc 27 args).run Tryd.prog W = .ok (.enter 27 args) W := by kernel_rfl
theorem enter_impl_VecHigh (args : Array Value) (W : World) : (callFunc 28 args).run Tryd.prog W = .ok (.enter 28 args) W := by kernel_rfl
theorem enter_spec_VecHigh (args : Array Value) (W : World) : (callFunc 29 args).run Tryd.prog W = .ok (.enter 29 args) W := by kernel_rfl
theorem enter_impl_VecCount (args : Array Value) (W : World) : (callFunc 30 args).run Tryd.prog W = .ok (.enter 30 args) W := by kernel_rfl
theorem enter_spec_VecCount (args : Array Value) (W : World) : (callFunc 31 args).run Tryd.prog W = .ok (.enter 31 args) W := by kernel_rfl
theorem enter_impl_VecRight (args : Array Value) (W : World) : (callFunc 32 args).run Tryd.prog W = .ok (.enter 32 args) W := by kernel_rfl
theorem enter_spec_VecRight (args : Array Value) (W : World) : (callFunc 33 args).run Tryd.prog W = .ok (.enter 33 args) W := by kernel_rfl
theorem enter_impl_VecGet (args : Array Value) (W : World) : (callFunc 34 args).run Tryd.prog W = .ok (.enter 34 args) W := by kernel_rfl
theorem enter_spec_VecGet (args : Array Value) (W : World) : (callFunc 35 args).run Tryd.prog W = .ok (.enter 35 args) W := by kernel_rfl
theorem enter_impl_VecAdd (args : Array Value) (W : World) : (callFunc 36 args).run Tryd.prog W = .ok (.enter 36 args) W := by kernel_rfl
end Go.Proofs.YthnnenbpbkmbhaaDoor
