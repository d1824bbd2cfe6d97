/- What is proved here: the parts of sync.Once's slow road at a free lock, one goroutine; a row's table is filled by it just once.
   What is proved here: a walk's step by a byte: where it stands then, and whether it hit; nothing turns but the walk's own blocks.
   What is proved here: the program's isByte says whether a number is a byte's; the world stays. -/
import Derived.Test.YtlgnplnmcdjbiaaGreatQDrawKFitWToOnceG
import Derived.Test.YtlgnplnmcdjbiaaGreatQMRowOfWToWalkOfW
import Derived.Defers
import Derived.Laws.Pointers
import Derived.Laws.LoneSync
import Derived.RegionCalls
import Derived.Test.YtlgnplnmcdjbiaaGreatQSpecStepW
import Derived.Test.YtlgnplnmcdjbiaaGreatProg
import Derived.WalkKit
namespace Go.Proofs.YtlgnplnmcdjbiaaGreat
open Go.RowKit

theorem KRow.done {W : World} {b : Nat} {sa : Option Addr} {n cap sk lo : Nat} {d u : Int} {tab : Nat → Nat} (h : KRow W b sa n cap sk lo d u tab) (x : Int) : KRow (W.setCell ⟨b, 3, none⟩ (.int .u32 x)) b sa n cap sk lo x u tab := by
  have hne : ∀ {i : Nat}, i ≠ 3 → (⟨b, 3, none⟩ : Addr) ≠ ⟨b, i, none⟩ := fun hi hh => hi (by injection hh with _ h2; exact h2.symm)
  refine ⟨?_, ?_, ?_, World.cell?_setCell_same _ _ _ h.c3, ?_, fun j hj => ?_, fun j hj => by rw [World.frozen?_setCell]; exact h.fr j hj, by simpa [World.setCell] using h.lt⟩
  · rw [World.cell?_setCell_other _ _ _ _ (hne (by omega))]; exact h.c0
  · rw [World.cell?_setCell_other _ _ _ _ (hne (by omega))]; exact h.c1
  · rw [World.cell?_setCell_other _ _ _ _ (hne (by omega))]; exact h.c2
  · rw [World.cell?_setCell_other _ _ _ _ (hne (by omega))]; exact h.c4
  · rw [World.cell?_setCell_other _ _ _ _ (hne (by omega))]; exact h.tb j hj
theorem KRow.lock {W : World} {b : Nat} {sa : Option Addr} {n cap sk lo : Nat} {d u : Int} {tab : Nat → Nat} (h : KRow W b sa n cap sk lo d u tab) (x : Int) : KRow (W.setCell ⟨b, 4, none⟩ (.int .i32 x)) b sa n cap sk lo d x tab := by
  have hne : ∀ {i : Nat}, i ≠ 4 → (⟨b, 4, none⟩ : Addr) ≠ ⟨b, i, none⟩ := fun hi hh => hi (by injection hh with _ h2; exact h2.symm)
  refine ⟨?_, ?_, ?_, ?_, World.cell?_setCell_same _ _ _ h.c4, fun j hj => ?_, fun j hj => by rw [World.frozen?_setCell]; exact h.fr j hj, by simpa [World.setCell] using h.lt⟩
  · rw [World.cell?_setCell_other _ _ _ _ (hne (by omega))]; exact h.c0
  · rw [World.cell?_setCell_other _ _ _ _ (hne (by omega))]; exact h.c1
  · rw [World.cell?_setCell_other _ _ _ _ (hne (by omega))]; exact h.c2
  · rw [World.cell?_setCell_other _ _ _ _ (hne (by omega))]; exact h.c3
  · rw [World.cell?_setCell_other _ _ _ _ (hne (by omega))]; exact h.tb j hj
set_option maxRecDepth 100000 in
set_option maxHeartbeats 4000000 in
theorem slow_any (b : Nat) (sa : Option Addr) (n cap sk lo : Nat) (f : Nat → Cel) (w : World) (hn : n ≤ 60) (hsz : ∀ i, i < n → (f i).c.size ≤ 256) (hr : CRow w b sa n f) (hk : KRow w b sa n cap sk lo 0 0 (fun _ => 0)) :
    Calls Tryz.prog 107 #[.pointer (some ⟨b, 3, none⟩), .func (.func 99) #[.pointer (some ⟨b, 0, none⟩)] #[]] w fun e w' => ∃ tab : Nat → Nat, e = .returned (.tuple #[]) ∧ w.grownBy w' (some b) ∧ KRow w' b sa n cap sk lo 1 0 tab ∧ TabAt f n tab := by
  have k1 := hk.lock 1
  have g1 : w.grownBy (w.setCell ⟨b, 4, none⟩ (.int .i32 1)) (some b) := only_setK (World.grownBy.refl _ _)
  have r1 := cells_grown hr g1 hk.lt
  have hl := run_call_load (P := Tryz.prog) Tryz.func112 (by kernel_rfl) (by kernel_rfl) (by kernel_rfl) .u32 (by kernel_rfl) (w := w.setCell ⟨b, 4, none⟩ (.int .i32 1)) (a := ⟨b, 3, none⟩) (x := 0) k1.c3
  have hnot : ∀ (x : Bool) (w : World), (Op.unary .not (.bool x)).run Tryz.prog w = .ok (.bool (!x)) w := fun _ _ => rfl
  have FC := fill_any b sa n cap sk lo 0 1 f (w.setCell ⟨b, 4, none⟩ (.int .i32 1)) hn hsz r1 k1
  have c4 := hk.c4
  have f4 := hk.fr 4 (by omega)
  have HK : Hid (KRow w b sa n cap sk lo 0 0 (fun _ => 0)) := hk
  have G1 : Hid (w.grownBy (w.setCell ⟨b, 4, none⟩ (.int .i32 1)) (some b)) := g1
  clear k1 r1 hr hk hsz g1
  go_enter_defers Tryz.func107, Tryz.ntmps107
  go_wp2_with (first | (go_at_call 113; refine (lock_free ⟨b, 4, none⟩ _ (by first | exact c4 | go_simp) (by first | exact f4 | go_simp)).mono ?_; rintro e w' ⟨rfl, rfl⟩) | (go_at_call 106; go_in))
  refine FC.mono ?_
  rintro e w1 ⟨tab, rfl, hg, hk1, htab⟩
  have G2 : Hid (w.grownBy w1 (some b)) := G1.out.trans hg
  have HT : Hid (TabAt f n tab) := htab
  have HK1 : Hid (KRow w1 b sa n cap sk lo 0 1 tab) := hk1
  clear hg hk1 htab FC hl
  go_wp2_with fail
  refine leaves_cons (f := 115) (args := #[.pointer (some ⟨b, 3, none⟩), .bool true]) (by simp) (by simp [go_sem]) ?_
  refine (store_deferred ⟨b, 3, none⟩ (.int .u32 0) .returning _ HK1.out.c3 (HK1.out.fr 3 (by omega))).mono ?_
  rintro e u' w2 ⟨rfl, rfl, rfl⟩
  have HK2 := HK1.out.drew.done 1
  have G3 : Hid (w.grownBy (w1.drew.setCell ⟨b, 3, none⟩ (.int .u32 1)) (some b)) := only_setK (grown_drewK G2.out)
  refine leaves_cons (f := 114) (args := #[.pointer (some ⟨b, 4, none⟩)]) (by simp [settle]) (by simp [go_sem]) ?_
  refine (unlock_deferred ⟨b, 4, none⟩ _ _ HK2.c4 (HK2.fr 4 (by omega))).mono ?_
  rintro e u' w3 ⟨rfl, rfl, rfl⟩
  have FIN : ∃ tab : Nat → Nat, Ending.returned (.tuple #[]) = .returned (.tuple #[]) ∧ w.grownBy ((w1.drew.setCell ⟨b, 3, none⟩ (.int .u32 1)).setCell ⟨b, 4, none⟩ (.int .i32 0)) (some b) ∧ KRow ((w1.drew.setCell ⟨b, 3, none⟩ (.int .u32 1)).setCell ⟨b, 4, none⟩ (.int .i32 0)) b sa n cap sk lo 1 0 tab ∧ TabAt f n tab := ⟨tab, rfl, only_setK G3.out, HK2.lock 0, HT.out⟩
  simp [Leaves, settle, results, Tryz.results107]
  simpa using FIN
set_option maxRecDepth 100000 in
set_option maxHeartbeats 1600000 in
theorem do_first (b : Nat) (sa : Option Addr) (n cap sk lo : Nat) (f : Nat → Cel) (w : World) (hn : n ≤ 60) (hsz : ∀ i, i < n → (f i).c.size ≤ 256) (hr : CRow w b sa n f) (hk : KRow w b sa n cap sk lo 0 0 (fun _ => 0)) :
    Calls Tryz.prog 98 #[.pointer (some ⟨b, 3, none⟩), .func (.func 99) #[.pointer (some ⟨b, 0, none⟩)] #[]] w fun e w' => ∃ tab : Nat → Nat, e = .returned (.tuple #[]) ∧ w.grownBy w' (some b) ∧ KRow w' b sa n cap sk lo 1 0 tab ∧ TabAt f n tab := by
  have hl := run_call_load (P := Tryz.prog) Tryz.func112 (by kernel_rfl) (by kernel_rfl) (by kernel_rfl) .u32 (by kernel_rfl) hk.c3
  have hnot : ∀ (x : Bool) (w : World), (Op.unary .not (.bool x)).run Tryz.prog w = .ok (.bool (!x)) w := fun _ _ => rfl
  have SL := slow_any b sa n cap sk lo f w hn hsz hr hk
  clear hr hk hsz
  go_enter Tryz.func98, Tryz.ntmps98
  go_wp2_with (first | (go_at_call 106; go_in))
  refine SL.mono ?_
  rintro e w1 ⟨tab, rfl, hg, hk1, htab⟩
  have HH : Hid (w.grownBy w1 (some b) ∧ KRow w1 b sa n cap sk lo 1 0 tab ∧ TabAt f n tab) := ⟨hg, hk1, htab⟩
  clear hg hk1 htab SL hl
  go_wp2_with fail
  go_end0
  first | exact ⟨rfl, HH.out.1, tab, HH.out.2⟩ | exact ⟨tab, rfl, HH.out⟩
set_option maxRecDepth 100000 in
set_option maxHeartbeats 1600000 in
theorem having_any (b : Nat) (sa : Option Addr) (n cap sk lo c : Nat) (f : Nat → Cel) (w : World) (hn : n ≤ 60) (hc : c < 256) (hsz : ∀ i, i < n → (f i).c.size ≤ 256) (hr : CRow w b sa n f) (hk : Ready w b sa n cap sk lo f) :
    Calls Tryz.prog 73 #[.pointer (some ⟨b, 0, none⟩), .int .u8 (c : Int)] w fun e w' => ∃ x : Nat, e = .returned (.int .u64 (x : Int)) ∧ IsBits x (behind (fun i => hasByte (f i).c c) n) ∧ Ready w' b sa n cap sk lo f ∧ w.grownBy w' (some b) := by
  have hmf : ∀ (fn : Fn) (first cap : Array Value) (w : World), (Instr.makeFunc fn first cap).run Tryz.prog w = .ok (.func fn first cap) w := fun _ _ _ _ => rfl
  have hc0 : (0 : Int) ≤ (c : Int) := by omega
  have hc1 : (c : Int) < 256 := by omega
  rcases hk with hk | ⟨tab, hk, ht⟩
  · have DO := do_first b sa n cap sk lo f w hn hsz hr hk
    have hlt := hk.lt
    clear hr hk hsz
    go_enter Tryz.func73, Tryz.ntmps73
    go_wp2_with fail
    refine DO.mono ?_
    rintro e w1 ⟨tab, rfl, hg, hk1, htab⟩
    have HH : Hid (IsBits (tab c) (behind (fun i => hasByte (f i).c c) n) ∧ Ready w1 b sa n cap sk lo f ∧ w.grownBy w1 (some b)) := ⟨htab c hc, Or.inr ⟨tab, hk1, htab⟩, hg⟩
    have cx := hk1.tb c hc
    have hlt1 := hk1.lt
    clear DO hg hk1 htab
    go_wp2_with fail
    go_ret
    exact ⟨tab c, rfl, HH.out⟩
  · have DO := do_done ⟨b, 3, none⟩ (.func (.func 99) #[.pointer (some ⟨b, 0, none⟩)] #[]) w hk.c3
    have hlt := hk.lt
    have cx := hk.tb c hc
    have HH : Hid (IsBits (tab c) (behind (fun i => hasByte (f i).c c) n) ∧ Ready w b sa n cap sk lo f) := ⟨ht c hc, Or.inr ⟨tab, hk, ht⟩⟩
    clear hr hk hsz ht
    go_enter Tryz.func73, Tryz.ntmps73
    go_wp2_with fail
    refine DO.mono ?_
    rintro e w1 ⟨rfl, hw⟩
    rw [hw]
    clear DO hw w1
    go_wp2_with fail
    go_ret
    exact ⟨tab c, rfl, HH.out.1, HH.out.2, World.grownBy.refl _ _⟩
end Go.Proofs.YtlgnplnmcdjbiaaGreat
namespace Go.Proofs.YtlgnplnmcdjbiaaGreat
open Go.RowKit

theorem OnlyM.grownBy {w W W' : World} {lo hi g : Nat} (h : OnlyM w W lo hi) (hg : W.grownBy W' (some g)) (h1 : lo ≤ g) (h2 : g < hi) : OnlyM w W' lo hi :=
  h.trans ⟨hg.os, hg.tape, hg.output, hg.size, fun k hk hd => hg.block k hk (fun e => by injection e with e; omega)⟩
theorem OnlyM.later {w W W' : World} {lo hi : Nat} (h : OnlyM w W lo hi) (hb : Below W.heap.size W W') : OnlyM w W' lo hi := h.trans (OnlyM.ofBelow hb)
theorem OnlyM.put {w W : World} {lo hi : Nat} {p : Addr} {v : Value} (h : OnlyM w W lo hi) (h1 : lo ≤ p.block) (h2 : p.block < hi) : OnlyM w (W.setCell p v) lo hi :=
  ⟨h.os, h.tape, h.output, by simpa [World.setCell] using h.size, fun k hk hd => by rw [Below.heap_setCell _ _ _ _ (fun e => by omega)]; exact h.block k hk hd⟩
theorem MRow.setOther {W : World} {r b fi la bl st fin : Nat} (h : MRow W r b fi la bl st fin) (p : Addr) (v : Value) (hne : p.block ≠ r) : MRow (W.setCell p v) r b fi la bl st fin := by
  have e : ∀ o, (W.setCell p v).cell? ⟨r, o, none⟩ = W.cell? ⟨r, o, none⟩ := fun o => World.cell?_setCell_other _ _ _ _ (fun hh => hne (by rw [hh]))
  exact ⟨by rw [e]; exact h.c0, by rw [e]; exact h.c1, by rw [e]; exact h.c2, by rw [e]; exact h.c3, by rw [e]; exact h.c4, by rw [e]; exact h.c5, by simpa [World.setCell] using h.lt⟩
theorem KRow.setOther {W : World} {b : Nat} {sa : Option Addr} {n cap sk lo : Nat} {d u : Int} {tab : Nat → Nat} (h : KRow W b sa n cap sk lo d u tab) (p : Addr) (v : Value) (hne : p.block ≠ b) : KRow (W.setCell p v) b sa n cap sk lo d u tab := by
  have e : ∀ o, (W.setCell p v).cell? ⟨b, o, none⟩ = W.cell? ⟨b, o, none⟩ := fun o => World.cell?_setCell_other _ _ _ _ (fun hh => hne (by rw [hh]))
  exact ⟨by rw [e]; exact h.c0, by rw [e]; exact h.c1, by rw [e]; exact h.c2, by rw [e]; exact h.c3, by rw [e]; exact h.c4, fun j hj => by rw [e]; exact h.tb j hj, fun j hj => by rw [World.frozen?_setCell]; exact h.fr j hj, by simpa [World.setCell] using h.lt⟩
theorem Ready.setOther {W : World} {b : Nat} {sa : Option Addr} {n cap sk lo : Nat} {f : Nat → Cel} (h : Ready W b sa n cap sk lo f) (p : Addr) (v : Value) (hne : p.block ≠ b) : Ready (W.setCell p v) b sa n cap sk lo f := by
  rcases h with h | ⟨tab, h, h2⟩
  · exact Or.inl (h.setOther p v hne)
  · exact Or.inr ⟨tab, h.setOther p v hne, h2⟩
theorem WBox.at {W : World} {q r be a : Nat} (h : WBox W q r be a) (x : Nat) : WBox (W.setCell ⟨q, 2, none⟩ (.int .u64 (x : Int))) q r be x := by
  refine ⟨?_, ?_, ?_, ?_, by simpa [World.setCell] using h.lt⟩
  · rw [World.cell?_setCell_other _ _ _ _ (fun hh => by injection hh with _ h2 _; omega)]; exact h.c0
  · rw [World.cell?_setCell_other _ _ _ _ (fun hh => by injection hh with _ h2 _; omega)]; exact h.c1
  · exact World.cell?_setCell_same _ _ _ h.c2
  · rw [World.frozen?_setCell]; exact h.f2
theorem hit_bit {x fin n : Nat} {P : Nat → Bool} (hx : IsBits x P) (hf : IsBits fin (fun j => decide (n = j))) : (((x &&& fin : Nat) : Int) != 0) = P n := by
  have h := hx.and hf
  cases hp : P n with
  | true =>
    have h9 : x &&& fin ≠ 0 := fun e => by
      have := h.none.1 e n
      simp [hp] at this
    simpa using h9
  | false =>
    have h9 : x &&& fin = 0 := h.none.2 (fun j => by
      by_cases e : n = j
      · subst e; simp [hp]
      · simp [e])
    rw [h9]
    rfl
set_option maxRecDepth 100000 in
set_option maxHeartbeats 4000000 in
theorem step_any (q : Nat) (sa : Option Addr) (n cap lo c : Nat) (f : Nat → Cel) (A : Nat → Bool) (w : World) (hn : n ≤ 60) (hc : c < 256) (hsz : ∀ i, i < n → (f i).c.size ≤ 256) (hr : CRow w lo sa n f) (hw : WalkAt w lo q sa n cap f A) (hA : ∀ j, n < j → A j = false) :
    Calls Tryz.prog 33 #[.pointer (some ⟨q, 0, none⟩), .int .u8 (c : Int)] w fun e w' => e = .returned (.bool (stepB f n A c n)) ∧ WalkAt w' lo q sa n cap f (fun j => stepB f n A c j || startB f n j) ∧ OnlyM w w' lo (q + 1) := by
  obtain ⟨r, b, be, a, sk, l, fi, la, bl, st, fin, ⟨h1, h2, h3, h4, h5, h6, h7, h8⟩, h9, h10⟩ := hw
  obtain ⟨k1, k2, kl⟩ := h3.cells
  obtain ⟨w0, w1, w2, wf, wl⟩ := h1
  have r0 := h2.c0
  have r5 := h2.c5
  have rl := h2.lt
  have hqb : q ≠ b := by omega
  have hqr : q ≠ r := by omega
  have hrb : r ≠ b := by omega
  have hal := lt_pow_of h10 hA
  have ha2 : a * 2 < 2 ^ 62 := by
    have : 2 ^ (n + 1) ≤ 2 ^ 61 := Nat.pow_le_pow_right (by decide) (by omega)
    omega
  have hwr : IntKind.u64.wrap ((a : Int) * 2) = (a : Int) * 2 := by rw [IntKind.wrap_u64]; omega
  have s1 := bits_shl h10 (fun j hj => hA j (by omega))
  have s2 := h10.and h7
  have s3 := s1.or s2
  have e1 : bits .and .u64 (a : Int) (l : Int) = ((a &&& l : Nat) : Int) := and64 h10.lt h7.lt
  have e2 : bits .or .u64 ((a : Int) * 2) ((a &&& l : Nat) : Int) = ((a * 2 ||| (a &&& l) : Nat) : Int) := or64 (a := a * 2) s1.lt s2.lt
  have bd : Below w.heap.size w w.drew := ⟨rfl, rfl, rfl, Nat.le_refl _, fun _ _ => rfl⟩
  have HV : Hid (Calls Tryz.prog 73 #[.pointer (some ⟨b, 0, none⟩), .int .u8 (c : Int)] w.drew fun e w' => ∃ x : Nat, e = .returned (.int .u64 (x : Int)) ∧ IsBits x (behind (fun i => hasByte (f i).c c) n) ∧ Ready w' b sa n cap sk l f ∧ w.grownBy w' (some b)) := (having_any b sa n cap sk l c f w.drew hn hc hsz ((hr.up h9).kept (bd.mono (Nat.le_of_lt kl))) (h3.kept bd kl)).mono (fun e w' h => by
    obtain ⟨x, g1, g2, g3, g4⟩ := h
    exact ⟨x, g1, g2, g3, World.grownBy.trans ⟨bd.os, bd.tape, bd.output, bd.size, fun k hk _ => bd.block k hk⟩ g4⟩)
  clear bd
  have W0 : Hid (WBox w q r be a ∧ MRow w r b fi la bl st fin) := ⟨⟨w0, w1, w2, wf, wl⟩, h2⟩
  have F0 : Hid (lo ≤ b ∧ b < r ∧ r < q ∧ MasksOk (skipB f n) n fi la bl st fin ∧ IsBits sk (behind (fun i => (f i).k) n) ∧ IsBits l (behind (fun i => (f i).o) n) ∧ IsBits be (startB f n)) := ⟨h9, h4.1, h4.2, h5, h6, h7, h8⟩
  have S3 : Hid (IsBits (a * 2 ||| (a &&& l)) (fun j => (decide (1 ≤ j) && A (j - 1)) || (A j && behind (fun i => (f i).o) n j))) := s3
  generalize a * 2 ||| (a &&& l) = y at *
  generalize ((a &&& l : Nat) : Int) = z at *
  clear hr h2 h3 h4 h5 h6 h7 h8 h9 h10 hA s1 s2 s3 hsz hal
  go_enter Tryz.func33, Tryz.ntmps33
  go_wp2_with fail
  go_region_held3 (fun W => W.cell? ⟨q, 0, none⟩ = some (.pointer (some ⟨r, 0, none⟩)) ∧ W.cell? ⟨q, 2, none⟩ = some (.int .u64 (a : Int)) ∧ W.cell? ⟨r, 0, none⟩ = some (.pointer (some ⟨b, 0, none⟩)) ∧ W.cell? ⟨b, 2, none⟩ = some (.int .u64 (l : Int))) (go_keep) (first
    | (go_at_call 73; refine HV.out.mono ?_; rintro e w2 ⟨x, rfl, hx, hrd, hg⟩; have e3 := and64 S3.out.lt hx.lt; obtain ⟨k1, k2, kl⟩ := hrd.cells; have PX : Hid (IsBits (y &&& x) (passB f n A c)) := pass_bits S3.out hx; have HD : Hid (Ready w2 b sa n cap sk l f ∧ w.grownBy w2 (some b) ∧ WBox w2 q r be a ∧ MRow w2 r b fi la bl st fin) := ⟨hrd, hg, W0.out.1.grown hg hqb, W0.out.2.grown hg hrb⟩; obtain ⟨w0, w1, w2', wf, wl⟩ := HD.out.2.2.1; have r0 := HD.out.2.2.2.c0; have r5 := HD.out.2.2.2.c5; have rl := HD.out.2.2.2.lt; clear hrd hg hx; generalize y &&& x = p at *)
    | (go_at_call 72; refine (once_any r b p fi la bl st fin n (skipB f n) (passB f n A c) _ hn HD.out.2.2.2 F0.out.2.2.2.1 PX.out (fun j hj => by unfold passB; rw [behind_le _ n j hj]; rfl)).mono ?_; rintro e w3 ⟨x3, rfl, hx3, hb3⟩; have HX3 : Hid (IsBits x3 (stepB f n A c)) := hx3; have HE : Hid (Ready w3 b sa n cap sk l f ∧ OnlyM w w3 lo (q + 1) ∧ WBox w3 q r be a ∧ MRow w3 r b fi la bl st fin) := ⟨HD.out.1.kept hb3 kl, ((OnlyM.refl w lo (q + 1)).grownBy HD.out.2.1 F0.out.1 (by have := F0.out.2; omega)).later hb3, HD.out.2.2.1.kept hb3 wl, HD.out.2.2.2.kept hb3 rl⟩; obtain ⟨w0, w1, w2', wf, wl⟩ := HE.out.2.2.1; obtain ⟨k1, k2, kl⟩ := HE.out.1.cells; have r0 := HE.out.2.2.2.c0; have r5 := HE.out.2.2.2.c5; have rl := HE.out.2.2.2.lt; clear hb3 hx3))
  all_goals
    have e4 : bits .or .u64 (x3 : Int) (be : Int) = ((x3 ||| be : Nat) : Int) := or64 HX3.out.lt F0.out.2.2.2.2.2.2.lt
    have e5 : bits .and .u64 (x3 : Int) (fin : Int) = ((x3 &&& fin : Nat) : Int) := and64 HX3.out.lt F0.out.2.2.2.1.e.lt
    have HB : Hid ((((x3 &&& fin : Nat) : Int) != 0) = stepB f n A c n) := hit_bit HX3.out F0.out.2.2.2.1.e
    have HN : Hid (IsBits (x3 ||| be) (fun j => stepB f n A c j || startB f n j)) := HX3.out.or F0.out.2.2.2.2.2.2
    generalize x3 &&& fin = hz at *
    generalize x3 ||| be = nx at *
    go_wp2_with fail
    go_ret
    obtain ⟨g1, g2, g3, g4, g5, g6, g7⟩ := F0.out
    obtain ⟨d1, d2, d3, d4⟩ := HE.out
    exact ⟨by rw [← HB.out]; rfl, ⟨r, b, be, nx, sk, l, fi, la, bl, st, fin, ⟨d3.at nx, d4.setOther _ _ hqr, d1.setOther _ _ hqb, ⟨g2, g3⟩, g4, g5, g6, g7⟩, g1, HN.out⟩, d2.put (by show lo ≤ q; omega) (Nat.lt_succ_self q)⟩
end Go.Proofs.YtlgnplnmcdjbiaaGreat
namespace Go.Proofs.YtlgnplnmcdjbiaaGreat
open Go.RowKit

theorem isByte_yes (n : Int) (w : World) (h0 : 0 ≤ n) (h1 : n ≤ 255) :
    Calls Tryz.prog 31 #[.int .i64 n] w fun e w' => e = .returned (.bool true) ∧ w' = w := by
  go_enter Tryz.func31, Tryz.ntmps31
  go_wp2
  go_ret
  exact ⟨rfl, rfl⟩
theorem isByte_no (n : Int) (w : World) (h : ¬ (0 ≤ n ∧ n ≤ 255)) :
    Calls Tryz.prog 31 #[.int .i64 n] w fun e w' => e = .returned (.bool false) ∧ w' = w := by
  by_cases h0 : 0 ≤ n
  · have h1 : ¬ n ≤ 255 := fun h2 => h ⟨h0, h2⟩
    clear h
    go_enter Tryz.func31, Tryz.ntmps31
    go_wp2
    go_ret
    exact ⟨rfl, rfl⟩
  · clear h
    go_enter Tryz.func31, Tryz.ntmps31
    go_wp2
    go_ret
    exact ⟨rfl, rfl⟩
end Go.Proofs.YtlgnplnmcdjbiaaGreat
