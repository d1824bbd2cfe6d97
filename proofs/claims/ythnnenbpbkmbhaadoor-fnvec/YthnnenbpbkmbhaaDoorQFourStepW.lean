/- What is proved here: each operation of the statement of four calls keeps the invariant. -/
import Derived.Test.YthnnenbpbkmbhaaDoorQFourRegionW
import Derived.Test.YthnnenbpbkmbhaaDoorQOperW
namespace Go.Proofs.YthnnenbpbkmbhaaDoor
open Go.RowKit

section
variable {ops : Array Oper} {Q : Exit → Act → World → Prop} {X : Four} {L : Nat → Bool} {ac : Act} {W : World} {ty : Nat} {po : String} {af : Array Edge} {at' : Array TypeId}
set_option maxRecDepth 100000 in
theorem step_load (i t p : Nat) (b : Int) (s : Option Addr) (n c : Nat) (hi : i ≤ 10) (hn : ∀ k, k < 4 → i ≠ callNo k) (ht : t ∉ slots4) (hp : X.a0.tmps[t]? = some (.pointer (some ⟨p, 0, none⟩))) (hv : X.lv i = .agg #[.int .i64 b, .slice s n c]) (hb : Boxed X.wB p 25 b s n c) (hI : FourI X L ac W)
    (hop : ops[i]? = some { dst := some (47 + i : Nat), op := .load 25 (.tmp t), type := ty, pos := po, after := af, guard := none }) : wpOp Tryd.prog ops Q i (fun a' w' => FourI X (more L i) a' w') ac W := by
  have h4 := four_load hI i hi hn
  rw [hv] at h4
  obtain ⟨V, p', sx, cx, g, hac, m⟩ := hI
  obtain ⟨c0, c1, _, _⟩ := (hb.since m.since).four
  have hev : ac.tmps[t]? = some (.pointer (some ⟨p, 0, none⟩)) := by rw [hac, putL_out_at ht]; exact hp
  clear hac m hb hp hv
  have h2 := @op_load none ac W (fun a' w' => FourI X (more L i) a' w') Q t (47 + i) ty po af p b s n c hev c0 c1
  refine wpOp_one hop rfl ?_
  exact h2 h4
theorem slot47 {i : Nat} (hi : i ≤ 10) : 47 + i ∈ slots4 := by rw [← slot_low hi]; exact slot_mem (by omega)
set_option maxRecDepth 100000 in
theorem step_call2 (k j1 j2 f : Nat) (v1 v2 : Value) (hk : k < 4) (h1 : j1 ≤ 10) (h2 : j2 ≤ 10) (n1 : ∀ k, k < 4 → j1 ≠ callNo k) (n2 : ∀ k, k < 4 → j2 ≠ callNo k) (hL1 : L j1 = true) (hL2 : L j2 = true) (hv1 : X.lv j1 = v1) (hv2 : X.lv j2 = v2) (hsz : X.a0.tmps.size = 290) (hL0 : L (callNo k) = false) (hc : ∀ args W, (callFunc f args).run Tryd.prog W = .ok (.enter f args) W)
    (hC : ∀ W, Since X.wB W → Calls Tryd.prog f #[v1, v2] W fun e w' => NewVec W (X.rb k) (X.rn k) (X.rf k) e w') (hI : FourI X L ac W)
    (hop : ops[callNo k]? = some { dst := some (47 + callNo k : Nat), op := .call { callee := .value (.func f), args := #[.tmp (47 + j1 : Nat), .tmp (47 + j2 : Nat)], argTypes := at' }, type := ty, pos := po, after := af, guard := none }) : wpOp Tryd.prog ops Q (callNo k) (fun a' w' => FourI X (more L (callNo k)) a' w') ac W := by
  have hI' := hI
  obtain ⟨V, p', sx, cx, g, rfl, m⟩ := hI
  refine wpOp_one hop rfl ?_
  refine op_call2 (K := fun a' w' => FourI X (more L (callNo k)) a' w') (v1 := v1) (v2 := v2) ?_ ?_ hc ?_
  · rw [putL_in_at (slot47 h1) (by omega), m.load j1 hL1 h1 n1, hv1]
  · rw [putL_in_at (slot47 h2) (by omega), m.load j2 hL2 h2 n2, hv2]
  · refine (hC W m.since).mono fun e w' h => ?_
    obtain ⟨so, co, rfl, hb, ho⟩ := h
    exact ⟨_, rfl, four_call hI' k hk hL0 ⟨so, co, rfl, hb, ho⟩⟩
set_option maxRecDepth 100000 in
theorem step_call1 (k j1 f : Nat) (v1 : Value) (hk : k < 4) (h1 : j1 ≤ 10) (n1 : ∀ k, k < 4 → j1 ≠ callNo k) (hL1 : L j1 = true) (hv1 : X.lv j1 = v1) (hsz : X.a0.tmps.size = 290) (hL0 : L (callNo k) = false) (hc : ∀ args W, (callFunc f args).run Tryd.prog W = .ok (.enter f args) W)
    (hC : ∀ W, Since X.wB W → Calls Tryd.prog f #[v1] W fun e w' => NewVec W (X.rb k) (X.rn k) (X.rf k) e w') (hI : FourI X L ac W)
    (hop : ops[callNo k]? = some { dst := some (47 + callNo k : Nat), op := .call { callee := .value (.func f), args := #[.tmp (47 + j1 : Nat)], argTypes := at' }, type := ty, pos := po, after := af, guard := none }) : wpOp Tryd.prog ops Q (callNo k) (fun a' w' => FourI X (more L (callNo k)) a' w') ac W := by
  have hI' := hI
  obtain ⟨V, p', sx, cx, g, rfl, m⟩ := hI
  refine wpOp_one hop rfl ?_
  refine op_call1 (K := fun a' w' => FourI X (more L (callNo k)) a' w') (v1 := v1) ?_ hc ?_
  · rw [putL_in_at (slot47 h1) (by omega), m.load j1 hL1 h1 n1, hv1]
  · refine (hC W m.since).mono fun e w' h => ?_
    obtain ⟨so, co, rfl, hb, ho⟩ := h
    exact ⟨_, rfl, four_call hI' k hk hL0 ⟨so, co, rfl, hb, ho⟩⟩
set_option maxRecDepth 100000 in
theorem step_alloc (k : Nat) (hk : k < 4) (hL0 : L (11 + k) = false) (hI : FourI X L ac W)
    (hop : ops[11 + k]? = some { dst := some (13 + k : Nat), op := .alloc 25, type := ty, pos := po, after := af, guard := none }) : wpOp Tryd.prog ops Q (11 + k) (fun a' w' => FourI X (more L (11 + k)) a' w') ac W := by
  refine wpOp_one hop rfl ?_
  exact op_alloc (K := fun a' w' => FourI X (more L (11 + k)) a' w') (four_alloc hI k hk hL0)
theorem slot13 {k : Nat} (hk : k < 4) : 13 + k ∈ slots4 := by
  have := slot_mem (i := 11 + k) (by omega)
  unfold slotOf at this
  rw [if_neg (by omega)] at this
  rwa [show 11 + k + 2 = 13 + k by omega] at this
set_option maxRecDepth 100000 in
theorem step_store (k : Nat) (hk : k < 4) (hsz : X.a0.tmps.size = 290) (hL0 : L (15 + k) = false) (h11 : L (11 + k) = true) (hcall : L (callNo k) = true) (hI : FourI X L ac W)
    (hop : ops[15 + k]? = some { dst := none, op := .store 25 (.tmp (13 + k : Nat)) (.tmp (47 + callNo k : Nat)), type := ty, pos := po, after := af, guard := none }) : wpOp Tryd.prog ops Q (15 + k) (fun a' w' => FourI X (more L (15 + k)) a' w') ac W := by
  obtain ⟨V, p, sx, cx, g, hac, m⟩ := hI
  have hp := (m.ptr k hk h11).1
  have hcv := m.call k hk hcall
  rw [slot_low (callNo_le hk)] at hcv
  have hc10 := callNo_le hk
  obtain ⟨c0, c1, f0, f1⟩ := (m.box0 k hk h11 hL0).four
  have hev1 : ac.tmps[13 + k]? = some (.pointer (some ⟨p k, 0, none⟩)) := by rw [hac, putL_in_at (slot13 hk) (by omega), hp]
  have hev2 : ac.tmps[47 + callNo k]? = some (.agg #[.int .i64 (X.rb k), .slice (sx k) (X.rn k) (cx k)]) := by rw [hac, putL_in_at (slot47 hc10) (by omega), hcv]
  have h4 : FourI X (more L (15 + k)) ac ((W.setCell ⟨p k, 0, none⟩ (.int .i64 (X.rb k))).setCell ⟨p k, 1, none⟩ (.slice (sx k) (X.rn k) (cx k))) := ⟨V, p, sx, cx, g, hac, four_store m k hk hL0 h11 hcall⟩
  have h2 := @op_store none ac W (fun a' w' => FourI X (more L (15 + k)) a' w') Q (13 + k) (47 + callNo k) ty po af (p k) (X.rb k) (sx k) (X.rn k) (cx k) _ _ hev1 hev2 c0 c1 f0 f1
  refine wpOp_one hop rfl ?_
  exact h2 h4
end
end Go.Proofs.YthnnenbpbkmbhaaDoor
