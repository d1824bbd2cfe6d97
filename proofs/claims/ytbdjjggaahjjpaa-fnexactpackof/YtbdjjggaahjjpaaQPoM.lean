/- What is said here: what packs tell: a pack, a vector, hits, a code; how it is read and owned. -/
import Derived.Test.YtbdjjggaahjjpaaQPkMToCCEqW
import Derived.Test.YtbdjjggaahjjpaaQVecS
namespace Go.Proofs.Ytbdjjggaahjjpaa
open Go.RowKit

/-- What a call over packs tells. -/
structure Po where
  P : Pk
  vb : Int
  nv : Nat
  vf : Nat → Int
  nh : Nat
  hf : Nat → Int
  cd : Int
/-- No pack. -/
def pk0 : Pk := ⟨0, fun _ => 0, fun _ _ => cel0, 0, fun _ => 0, 0⟩
/-- A code alone. -/
def poCode (c : Int) : Po := ⟨pk0, 0, 0, fun _ => 0, 0, fun _ => 0, c⟩
def Po.marked (Q : Po) (q : Nat) : Po := { Q with P := Q.P.marked q, vf := fun i => ((q + totC Q.P.n Q.P.k * 3 + Q.P.m : Nat) : Int) + i, hf := fun i => ((q + totC Q.P.n Q.P.k * 3 + Q.P.m + Q.nv : Nat) : Int) + i }
def PoRead (W : World) (sr sm sv sh : Option Addr) (Q : Po) : Prop := PkRead W sr sm Q.P ∧ Row W W.heap.size sv Q.nv Q.vf ∧ Row W W.heap.size sh Q.nh Q.hf
def PoOwn (W : World) (lo hi : Nat) (sr sm sv sh : Option Addr) (Q : Po) : Prop := ∃ h1 h2, lo ≤ h1 ∧ h1 ≤ h2 ∧ h2 ≤ hi ∧ hi ≤ W.heap.size ∧ Slice W lo h1 sv Q.nv Q.vf ∧ Slice W h1 h2 sh Q.nh Q.hf ∧ PkOwn W h2 hi sr sm Q.P
theorem PoOwn.read {W : World} {lo hi : Nat} {sr sm sv sh : Option Addr} {Q : Po} (h : PoOwn W lo hi sr sm sv sh Q) : PoRead W sr sm sv sh Q := by
  obtain ⟨h1, h2, _, _, _, _, a, b, c⟩ := h
  exact ⟨c.read, a.row, b.row⟩
theorem PoRead.late {W W' : World} {sr sm sv sh : Option Addr} {Q : Po} (h : PoRead W sr sm sv sh Q) (hb : Below W.heap.size W W') : PoRead W' sr sm sv sh Q :=
  ⟨h.1.late hb, (h.2.1.kept hb).up hb.size, (h.2.2.kept hb).up hb.size⟩
theorem PoOwn.kept {W W' : World} {lo hi : Nat} {sr sm sv sh : Option Addr} {Q : Po} (h : PoOwn W lo hi sr sm sv sh Q) (hb : Below W.heap.size W W') : PoOwn W' lo hi sr sm sv sh Q := by
  obtain ⟨h1, h2, a1, a2, a3, a4, a, b, c⟩ := h
  exact ⟨h1, h2, a1, a2, a3, Nat.le_trans a4 hb.size, a.kept hb rfl, b.kept hb rfl, c.kept hb⟩
theorem PoOwn.onlyM {W W' : World} {lo hi lo' hi' : Nat} {sr sm sv sh : Option Addr} {Q : Po} (h : PoOwn W lo hi sr sm sv sh Q) (ho : OnlyM W W' lo' hi') (hd : hi ≤ lo' ∨ hi' ≤ lo) : PoOwn W' lo hi sr sm sv sh Q := by
  obtain ⟨h1, h2, a1, a2, a3, a4, a, b, c⟩ := h
  exact ⟨h1, h2, a1, a2, a3, Nat.le_trans a4 ho.size, a.onlyM ho (by omega), b.onlyM ho (by omega), c.onlyM ho (by omega)⟩
/-- What is told, in new memory. -/
def NewPo (w : World) (Q : Po) (e : Ending) (w' : World) : Prop := ∃ (sr sm sv sh : Option Addr) (cr cm cv ch : Nat), e = .returned (.agg #[.slice sr Q.P.k cr, .slice sm Q.P.m cm, .int .i64 Q.P.b, .int .i64 Q.vb, .slice sv Q.nv cv, .slice sh Q.nh ch, .int .i64 Q.cd]) ∧ Below w.heap.size w w' ∧ PoOwn w' w.heap.size w'.heap.size sr sm sv sh Q
theorem poOwn_code {W : World} {lo : Nat} {c : Int} (h : lo ≤ W.heap.size) : PoOwn W lo W.heap.size none none none none (poCode c) :=
  ⟨lo, lo, Nat.le_refl _, Nat.le_refl _, h, Nat.le_refl _, Or.inl rfl, Or.inl rfl, 0, 0, fun _ => 0, fun _ => none, fun _ => 0, Or.inl rfl, Or.inl rfl⟩
/-- Seven cells are written. -/
theorem seven_set (W : World) (p : Nat) (v0 v1 v2 v3 v4 v5 v6 : Value) (h : ∀ i, i < 7 → ∃ u, W.cell? ⟨p, i, none⟩ = some u) :
    let W' := ((((((W.setCell ⟨p, 0, none⟩ v0).setCell ⟨p, 1, none⟩ v1).setCell ⟨p, 2, none⟩ v2).setCell ⟨p, 3, none⟩ v3).setCell ⟨p, 4, none⟩ v4).setCell ⟨p, 5, none⟩ v5).setCell ⟨p, 6, none⟩ v6
    W'.cell? ⟨p, 0, none⟩ = some v0 ∧ W'.cell? ⟨p, 1, none⟩ = some v1 ∧ W'.cell? ⟨p, 2, none⟩ = some v2 ∧ W'.cell? ⟨p, 3, none⟩ = some v3 ∧ W'.cell? ⟨p, 4, none⟩ = some v4 ∧ W'.cell? ⟨p, 5, none⟩ = some v5 ∧ W'.cell? ⟨p, 6, none⟩ = some v6 := by
  have hne : ∀ {x y : Nat}, x ≠ y → (⟨p, x, none⟩ : Addr) ≠ ⟨p, y, none⟩ := fun hxy hh => hxy (by injection hh)
  have keep : ∀ (V : World) (x y : Nat) (v u : Value), x ≠ y → V.cell? ⟨p, y, none⟩ = some u → (V.setCell ⟨p, x, none⟩ v).cell? ⟨p, y, none⟩ = some u := fun V x y v u hxy hu => by rw [World.cell?_setCell_other _ _ _ _ (hne hxy)]; exact hu
  obtain ⟨u0, k0⟩ := h 0 (by decide)
  obtain ⟨u1, k1⟩ := h 1 (by decide)
  obtain ⟨u2, k2⟩ := h 2 (by decide)
  obtain ⟨u3, k3⟩ := h 3 (by decide)
  obtain ⟨u4, k4⟩ := h 4 (by decide)
  obtain ⟨u5, k5⟩ := h 5 (by decide)
  obtain ⟨u6, k6⟩ := h 6 (by decide)
  refine ⟨?_, ?_, ?_, ?_, ?_, ?_, ?_⟩
  · exact keep _ _ _ _ _ (by decide) (keep _ _ _ _ _ (by decide) (keep _ _ _ _ _ (by decide) (keep _ _ _ _ _ (by decide) (keep _ _ _ _ _ (by decide) (keep _ _ _ _ _ (by decide) (World.cell?_setCell_same _ _ _ k0))))))
  · exact keep _ _ _ _ _ (by decide) (keep _ _ _ _ _ (by decide) (keep _ _ _ _ _ (by decide) (keep _ _ _ _ _ (by decide) (keep _ _ _ _ _ (by decide) (World.cell?_setCell_same _ _ _ (keep _ _ _ _ _ (by decide) k1))))))
  · exact keep _ _ _ _ _ (by decide) (keep _ _ _ _ _ (by decide) (keep _ _ _ _ _ (by decide) (keep _ _ _ _ _ (by decide) (World.cell?_setCell_same _ _ _ (keep _ _ _ _ _ (by decide) (keep _ _ _ _ _ (by decide) k2))))))
  · exact keep _ _ _ _ _ (by decide) (keep _ _ _ _ _ (by decide) (keep _ _ _ _ _ (by decide) (World.cell?_setCell_same _ _ _ (keep _ _ _ _ _ (by decide) (keep _ _ _ _ _ (by decide) (keep _ _ _ _ _ (by decide) k3))))))
  · exact keep _ _ _ _ _ (by decide) (keep _ _ _ _ _ (by decide) (World.cell?_setCell_same _ _ _ (keep _ _ _ _ _ (by decide) (keep _ _ _ _ _ (by decide) (keep _ _ _ _ _ (by decide) (keep _ _ _ _ _ (by decide) k4))))))
  · exact keep _ _ _ _ _ (by decide) (World.cell?_setCell_same _ _ _ (keep _ _ _ _ _ (by decide) (keep _ _ _ _ _ (by decide) (keep _ _ _ _ _ (by decide) (keep _ _ _ _ _ (by decide) (keep _ _ _ _ _ (by decide) k5))))))
  · exact World.cell?_setCell_same _ _ _ (keep _ _ _ _ _ (by decide) (keep _ _ _ _ _ (by decide) (keep _ _ _ _ _ (by decide) (keep _ _ _ _ _ (by decide) (keep _ _ _ _ _ (by decide) (keep _ _ _ _ _ (by decide) k6))))))
/-- Seven writes turn their block alone. -/
theorem seven_only (W : World) (p : Nat) (v0 v1 v2 v3 v4 v5 v6 : Value) : OnlyM W (((((((W.setCell ⟨p, 0, none⟩ v0).setCell ⟨p, 1, none⟩ v1).setCell ⟨p, 2, none⟩ v2).setCell ⟨p, 3, none⟩ v3).setCell ⟨p, 4, none⟩ v4).setCell ⟨p, 5, none⟩ v5).setCell ⟨p, 6, none⟩ v6) p (p + 1) :=
  (((((((OnlyM.refl W p (p + 1)).setS (Nat.le_refl _) (Nat.lt_succ_self _)).setS (Nat.le_refl _) (Nat.lt_succ_self _)).setS (Nat.le_refl _) (Nat.lt_succ_self _)).setS (Nat.le_refl _) (Nat.lt_succ_self _)).setS (Nat.le_refl _) (Nat.lt_succ_self _)).setS (Nat.le_refl _) (Nat.lt_succ_self _)).setS (Nat.le_refl _) (Nat.lt_succ_self _)
/-- A box of seven cells is there. -/
theorem seven_there {W : World} {p : Nat} {u0 u1 u2 u3 u4 u5 u6 : Value} {t : TypeId} (h : W.heap[p]? = some (.cells #[u0, u1, u2, u3, u4, u5, u6] t (0, 0))) : ∀ i, i < 7 → ∃ u, W.cell? ⟨p, i, none⟩ = some u := by
  intro i hi
  have hc : i = 0 ∨ i = 1 ∨ i = 2 ∨ i = 3 ∨ i = 4 ∨ i = 5 ∨ i = 6 := by omega
  rcases hc with rfl | rfl | rfl | rfl | rfl | rfl | rfl
  · exact ⟨u0, by simp [World.cell?, h]⟩
  · exact ⟨u1, by simp [World.cell?, h]⟩
  · exact ⟨u2, by simp [World.cell?, h]⟩
  · exact ⟨u3, by simp [World.cell?, h]⟩
  · exact ⟨u4, by simp [World.cell?, h]⟩
  · exact ⟨u5, by simp [World.cell?, h]⟩
  · exact ⟨u6, by simp [World.cell?, h]⟩
end Go.Proofs.Ytbdjjggaahjjpaa
