/- What is proved here: the places behind the cells that may be passed by, or passed again, as the program reckons them; nothing that was there turns.
   What is proved here: the set with one byte more, as the program makes it; nothing that was there turns.
   What is proved here: a set of bytes in a block of four words, and the set of the first bytes of a text.
   What is proved here: the program's setOfClass hands back the set of a right class, or tells that it is not right; nothing that was there turns. -/
import Derived.Test.YtlgnplnmcdjbiaaGreatQCellMToWordM
import Derived.Test.YtlgnplnmcdjbiaaGreatQImplRightWToCellS
import Derived.WalkKit
import Derived.Below
import Derived.Test.YtlgnplnmcdjbiaaGreatQClassMToCellD
import Derived.Test.YtlgnplnmcdjbiaaGreatQGetBWToClassRightW
import Derived.Laws.Rows
import Derived.Deep.RegionWith
namespace Go.Proofs.YtlgnplnmcdjbiaaGreat
open Go.RowKit

theorem wrap_powP {r : Nat} (h : r < 64) : IntKind.u64.wrap (2 ^ r) = ((2 ^ r : Nat) : Int) := by
  have := pow_lt64 h
  rw [wraps_u64s _ (Int.pow_nonneg (by decide)) (by exact_mod_cast this)]
  simp
theorem isSkip_any (a : Cel) (w : World) :
    Calls Tryz.prog 104 #[.agg #[.string a.c, .bool a.k, .bool a.o]] w fun e w' => e = .returned (.bool a.k) ∧ Below w.heap.size w w' := by
  go_enter Tryz.func104, Tryz.ntmps104
  go_wp2
  go_ret
  exact ⟨rfl, (Below.refl _ _).alloc (Nat.le_refl _) _⟩
set_option maxRecDepth 100000 in
set_option maxHeartbeats 4000000 in
theorem behindSkip_any (sa : Option Addr) (n cap : Nat) (f : Nat → Cel) (w : World) (hn : n ≤ 60) (hr : CRow w w.heap.size sa n f) :
    Calls Tryz.prog 103 #[.slice sa n cap, .func (.func 104) #[] #[]] w fun e w' => ∃ b : Nat, e = .returned (.int .u64 (b : Int)) ∧ IsBits b (behind (fun i => (f i).k) n) ∧ Below w.heap.size w w' := by
  have HR : Hid (CRow w w.heap.size sa n f) := hr
  clear hr
  go_enter Tryz.func103, Tryz.ntmps103
  go_wp2_with fail
  go_loopw [5, 10] (fun ov i wr => ∃ k b : Nat, k ≤ n ∧ i = .int .i64 (k : Int) ∧ ov = .int .u64 (b : Int) ∧ IsBits b (behind (fun i => (f i).k) k) ∧ Below w.heap.size w wr) (fun _ i _ => n - (intOf i).toNat)
  case atStart => exact ⟨0, 0, Nat.zero_le _, rfl, rfl, behind_zero _, Below.refl _ _⟩
  case round =>
    obtain ⟨k, b, hk, rfl, rfl, hbits, hbel⟩ := hrel
    have HB : Hid (Below w.heap.size w wr) := hbel
    have HI : Hid (IsBits b (behind (fun i => (f i).k) k)) := hbits
    by_cases hkl : k < n
    · obtain ⟨bb, off, rfl, hbb, hat⟩ := HR.out.at hbel hkl
      obtain ⟨c0, c1, c2⟩ := hat
      have hki : (k : Int) < (n : Int) := by omega
      have hk0 : (0 : Int) ≤ (k : Int) := by omega
      obtain ⟨⟨ac, al, am⟩, ha⟩ : ∃ a, f k = a := ⟨_, rfl⟩
      have HF : Hid (f k = ⟨ac, al, am⟩) := ha
      rw [ha] at c0 c1 c2
      simp only at c0 c1 c2
      have C := fun W => isSkip_any ⟨ac, al, am⟩ W
      simp only at C
      have BX : Hid (Below w.heap.size w (wr.alloc (.cells #[.string ac, .bool al, .bool am] 123))) := HB.out.alloc HB.out.size _
      clear ha hbits hbel
      go_wp2_with fail
      generalize wr.alloc (.cells #[.string ac, .bool al, .bool am] 123) = v at *
      refine (C v).mono ?_
      rintro e w1 ⟨rfl, hb1⟩
      have B1 : Hid (Below w.heap.size w w1) := BX.out.trans (hb1.mono BX.out.size)
      clear hb1 C BX HB c0 c1 c2
      cases hq : al with
      | true =>
        have HI2 : Hid (IsBits (b ||| 2 ^ (k + 1)) (behind (fun i => (f i).k) (k + 1))) := behind_yes HI.out (by omega) (by show (f k).k = true; rw [HF.out]; exact hq)
        obtain ⟨r, hr⟩ : ∃ r, k + 1 = r := ⟨_, rfl⟩
        have hri : (k : Int) + 1 = (r : Int) := by omega
        have hr0 : (0 : Int) ≤ (r : Int) := by omega
        rw [hr] at HI2
        have hpw := wrap_powP (r := r) (by omega)
        have hor : bits .or .u64 (b : Int) ((2 ^ r : Nat) : Int) = ((b ||| 2 ^ r : Nat) : Int) := or64 HI.out.lt (pow_lt64 (by omega))
        generalize b ||| 2 ^ r = b2 at *
        generalize ((2 ^ r : Nat) : Int) = P at *
        clear hq
        go_wp2_with fail
        go_roundw
        case rel => exact ⟨k + 1, b2, by omega, by go_num, rfl, by rw [hr]; exact HI2.out, B1.out⟩
        case measure => simp [intOf]; omega
      | false =>
        have HI2 : Hid (IsBits b (behind (fun i => (f i).k) (k + 1))) := behind_no HI.out (by show (f k).k = false; rw [HF.out]; exact hq)
        clear hq
        go_wp2_with fail
        go_roundw
        case rel => exact ⟨k + 1, b, by omega, by go_num, rfl, HI2.out, B1.out⟩
        case measure => simp [intOf]; omega
    · have hki : ¬ (k : Int) < (n : Int) := by omega
      obtain rfl : k = n := by omega
      clear hbits hbel
      go_wp2_with fail
      go_ret
      exact ⟨b, rfl, HI.out, HB.out⟩
theorem isLoop_any (a : Cel) (w : World) :
    Calls Tryz.prog 105 #[.agg #[.string a.c, .bool a.k, .bool a.o]] w fun e w' => e = .returned (.bool a.o) ∧ Below w.heap.size w w' := by
  go_enter Tryz.func105, Tryz.ntmps105
  go_wp2
  go_ret
  exact ⟨rfl, (Below.refl _ _).alloc (Nat.le_refl _) _⟩
set_option maxRecDepth 100000 in
set_option maxHeartbeats 4000000 in
theorem behindLoop_any (sa : Option Addr) (n cap : Nat) (f : Nat → Cel) (w : World) (hn : n ≤ 60) (hr : CRow w w.heap.size sa n f) :
    Calls Tryz.prog 103 #[.slice sa n cap, .func (.func 105) #[] #[]] w fun e w' => ∃ b : Nat, e = .returned (.int .u64 (b : Int)) ∧ IsBits b (behind (fun i => (f i).o) n) ∧ Below w.heap.size w w' := by
  have HR : Hid (CRow w w.heap.size sa n f) := hr
  clear hr
  go_enter Tryz.func103, Tryz.ntmps103
  go_wp2_with fail
  go_loopw [5, 10] (fun ov i wr => ∃ k b : Nat, k ≤ n ∧ i = .int .i64 (k : Int) ∧ ov = .int .u64 (b : Int) ∧ IsBits b (behind (fun i => (f i).o) k) ∧ Below w.heap.size w wr) (fun _ i _ => n - (intOf i).toNat)
  case atStart => exact ⟨0, 0, Nat.zero_le _, rfl, rfl, behind_zero _, Below.refl _ _⟩
  case round =>
    obtain ⟨k, b, hk, rfl, rfl, hbits, hbel⟩ := hrel
    have HB : Hid (Below w.heap.size w wr) := hbel
    have HI : Hid (IsBits b (behind (fun i => (f i).o) k)) := hbits
    by_cases hkl : k < n
    · obtain ⟨bb, off, rfl, hbb, hat⟩ := HR.out.at hbel hkl
      obtain ⟨c0, c1, c2⟩ := hat
      have hki : (k : Int) < (n : Int) := by omega
      have hk0 : (0 : Int) ≤ (k : Int) := by omega
      obtain ⟨⟨ac, al, am⟩, ha⟩ : ∃ a, f k = a := ⟨_, rfl⟩
      have HF : Hid (f k = ⟨ac, al, am⟩) := ha
      rw [ha] at c0 c1 c2
      simp only at c0 c1 c2
      have C := fun W => isLoop_any ⟨ac, al, am⟩ W
      simp only at C
      have BX : Hid (Below w.heap.size w (wr.alloc (.cells #[.string ac, .bool al, .bool am] 123))) := HB.out.alloc HB.out.size _
      clear ha hbits hbel
      go_wp2_with fail
      generalize wr.alloc (.cells #[.string ac, .bool al, .bool am] 123) = v at *
      refine (C v).mono ?_
      rintro e w1 ⟨rfl, hb1⟩
      have B1 : Hid (Below w.heap.size w w1) := BX.out.trans (hb1.mono BX.out.size)
      clear hb1 C BX HB c0 c1 c2
      cases hq : am with
      | true =>
        have HI2 : Hid (IsBits (b ||| 2 ^ (k + 1)) (behind (fun i => (f i).o) (k + 1))) := behind_yes HI.out (by omega) (by show (f k).o = true; rw [HF.out]; exact hq)
        obtain ⟨r, hr⟩ : ∃ r, k + 1 = r := ⟨_, rfl⟩
        have hri : (k : Int) + 1 = (r : Int) := by omega
        have hr0 : (0 : Int) ≤ (r : Int) := by omega
        rw [hr] at HI2
        have hpw := wrap_powP (r := r) (by omega)
        have hor : bits .or .u64 (b : Int) ((2 ^ r : Nat) : Int) = ((b ||| 2 ^ r : Nat) : Int) := or64 HI.out.lt (pow_lt64 (by omega))
        generalize b ||| 2 ^ r = b2 at *
        generalize ((2 ^ r : Nat) : Int) = P at *
        clear hq
        go_wp2_with fail
        go_roundw
        case rel => exact ⟨k + 1, b2, by omega, by go_num, rfl, by rw [hr]; exact HI2.out, B1.out⟩
        case measure => simp [intOf]; omega
      | false =>
        have HI2 : Hid (IsBits b (behind (fun i => (f i).o) (k + 1))) := behind_no HI.out (by show (f k).o = false; rw [HF.out]; exact hq)
        clear hq
        go_wp2_with fail
        go_roundw
        case rel => exact ⟨k + 1, b, by omega, by go_num, rfl, HI2.out, B1.out⟩
        case measure => simp [intOf]; omega
    · have hki : ¬ (k : Int) < (n : Int) := by omega
      obtain rfl : k = n := by omega
      clear hbits hbel
      go_wp2_with fail
      go_ret
      exact ⟨b, rfl, HI.out, HB.out⟩
end Go.Proofs.YtlgnplnmcdjbiaaGreat
namespace Go.Proofs.YtlgnplnmcdjbiaaGreat
open Go.RowKit

/-- A set as a value. -/
def setV (f : Nat → Nat) : Value := .agg #[.int .u64 (f 0 : Nat), .int .u64 (f 1 : Nat), .int .u64 (f 2 : Nat), .int .u64 (f 3 : Nat)]
theorem wrap_pow64 {r : Nat} (h : r < 64) : IntKind.u64.wrap (2 ^ r) = ((2 ^ r : Nat) : Int) := by
  have := pow_lt64 h
  rw [wraps_u64s _ (Int.pow_nonneg (by decide)) (by exact_mod_cast this)]
  simp

set_option maxHeartbeats 1000000 in
theorem with_0 (x0 x1 x2 x3 y p : Int) (b r : Nat) (w : World) (hq : (b : Int) / 64 = 0) (hr : (b : Int) % 64 = r) (_hr2 : r < 64) (hp : IntKind.u64.wrap (2 ^ r) = p) (h1 : bits .or .u64 x0 p = y) :
    Calls Tryz.prog 123 #[.agg #[.int .u64 x0, .int .u64 x1, .int .u64 x2, .int .u64 x3], .int .u8 (b : Int)] w fun e w' => e = .returned (.agg #[.int .u64 y, .int .u64 x1, .int .u64 x2, .int .u64 x3]) ∧ Below w.heap.size w w' := by
  go_enter Tryz.func123, Tryz.ntmps123
  go_wp2
  refine bodyPost_ret (v := .agg #[.int .u64 y, .int .u64 x1, .int .u64 x2, .int .u64 x3]) (by simp [results, Tryz.results123, go_sem]) rfl ?_
  exact ⟨rfl, ((Below.refl _ _).alloc (Nat.le_refl _) _).alloc (by simp) _⟩

set_option maxHeartbeats 1000000 in
theorem with_1 (x0 x1 x2 x3 y p : Int) (b r : Nat) (w : World) (hq : (b : Int) / 64 = 1) (hr : (b : Int) % 64 = r) (_hr2 : r < 64) (hp : IntKind.u64.wrap (2 ^ r) = p) (h1 : bits .or .u64 x1 p = y) :
    Calls Tryz.prog 123 #[.agg #[.int .u64 x0, .int .u64 x1, .int .u64 x2, .int .u64 x3], .int .u8 (b : Int)] w fun e w' => e = .returned (.agg #[.int .u64 x0, .int .u64 y, .int .u64 x2, .int .u64 x3]) ∧ Below w.heap.size w w' := by
  go_enter Tryz.func123, Tryz.ntmps123
  go_wp2
  refine bodyPost_ret (v := .agg #[.int .u64 x0, .int .u64 y, .int .u64 x2, .int .u64 x3]) (by simp [results, Tryz.results123, go_sem]) rfl ?_
  exact ⟨rfl, ((Below.refl _ _).alloc (Nat.le_refl _) _).alloc (by simp) _⟩

set_option maxHeartbeats 1000000 in
theorem with_2 (x0 x1 x2 x3 y p : Int) (b r : Nat) (w : World) (hq : (b : Int) / 64 = 2) (hr : (b : Int) % 64 = r) (_hr2 : r < 64) (hp : IntKind.u64.wrap (2 ^ r) = p) (h1 : bits .or .u64 x2 p = y) :
    Calls Tryz.prog 123 #[.agg #[.int .u64 x0, .int .u64 x1, .int .u64 x2, .int .u64 x3], .int .u8 (b : Int)] w fun e w' => e = .returned (.agg #[.int .u64 x0, .int .u64 x1, .int .u64 y, .int .u64 x3]) ∧ Below w.heap.size w w' := by
  go_enter Tryz.func123, Tryz.ntmps123
  go_wp2
  refine bodyPost_ret (v := .agg #[.int .u64 x0, .int .u64 x1, .int .u64 y, .int .u64 x3]) (by simp [results, Tryz.results123, go_sem]) rfl ?_
  exact ⟨rfl, ((Below.refl _ _).alloc (Nat.le_refl _) _).alloc (by simp) _⟩

set_option maxHeartbeats 1000000 in
theorem with_3 (x0 x1 x2 x3 y p : Int) (b r : Nat) (w : World) (hq : (b : Int) / 64 = 3) (hr : (b : Int) % 64 = r) (_hr2 : r < 64) (hp : IntKind.u64.wrap (2 ^ r) = p) (h1 : bits .or .u64 x3 p = y) :
    Calls Tryz.prog 123 #[.agg #[.int .u64 x0, .int .u64 x1, .int .u64 x2, .int .u64 x3], .int .u8 (b : Int)] w fun e w' => e = .returned (.agg #[.int .u64 x0, .int .u64 x1, .int .u64 x2, .int .u64 y]) ∧ Below w.heap.size w w' := by
  go_enter Tryz.func123, Tryz.ntmps123
  go_wp2
  refine bodyPost_ret (v := .agg #[.int .u64 x0, .int .u64 x1, .int .u64 x2, .int .u64 y]) (by simp [results, Tryz.results123, go_sem]) rfl ?_
  exact ⟨rfl, ((Below.refl _ _).alloc (Nat.le_refl _) _).alloc (by simp) _⟩

theorem with_any (f : Nat → Nat) (b : Nat) (w : World) (hf : Set4 f) (hb : b < 256) :
    Calls Tryz.prog 123 #[.agg #[.int .u64 (f 0 : Nat), .int .u64 (f 1 : Nat), .int .u64 (f 2 : Nat), .int .u64 (f 3 : Nat)], .int .u8 (b : Int)] w fun e w' => e = .returned (.agg #[.int .u64 ((withB f b) 0 : Nat), .int .u64 ((withB f b) 1 : Nat), .int .u64 ((withB f b) 2 : Nat), .int .u64 ((withB f b) 3 : Nat)]) ∧ Below w.heap.size w w' := by
  have hr : (b : Int) % 64 = (b % 64 : Nat) := by omega
  have hr2 : b % 64 < 64 := Nat.mod_lt _ (by decide)
  have hp := wrap_pow64 hr2
  have h4 : b / 64 = 0 ∨ b / 64 = 1 ∨ b / 64 = 2 ∨ b / 64 = 3 := by omega
  have e : ∀ j, bits .or .u64 (f j : Nat) ((2 ^ (b % 64) : Nat) : Int) = ((f j ||| 2 ^ (b % 64) : Nat) : Int) := fun j => or64 (hf j) (pow_lt64 hr2)
  rcases h4 with h | h | h | h
  · have e1 : withB f b 0 = f 0 ||| 2 ^ (b % 64) ∧ withB f b 1 = f 1 ∧ withB f b 2 = f 2 ∧ withB f b 3 = f 3 := by simp [withB, h]
    rw [e1.1, e1.2.1, e1.2.2.1, e1.2.2.2]
    exact with_0 _ _ _ _ _ _ b _ w (by omega) hr hr2 hp (e 0)
  · have e1 : withB f b 0 = f 0 ∧ withB f b 1 = f 1 ||| 2 ^ (b % 64) ∧ withB f b 2 = f 2 ∧ withB f b 3 = f 3 := by simp [withB, h]
    rw [e1.1, e1.2.1, e1.2.2.1, e1.2.2.2]
    exact with_1 _ _ _ _ _ _ b _ w (by omega) hr hr2 hp (e 1)
  · have e1 : withB f b 0 = f 0 ∧ withB f b 1 = f 1 ∧ withB f b 2 = f 2 ||| 2 ^ (b % 64) ∧ withB f b 3 = f 3 := by simp [withB, h]
    rw [e1.1, e1.2.1, e1.2.2.1, e1.2.2.2]
    exact with_2 _ _ _ _ _ _ b _ w (by omega) hr hr2 hp (e 2)
  · have e1 : withB f b 0 = f 0 ∧ withB f b 1 = f 1 ∧ withB f b 2 = f 2 ∧ withB f b 3 = f 3 ||| 2 ^ (b % 64) := by simp [withB, h]
    rw [e1.1, e1.2.1, e1.2.2.1, e1.2.2.2]
    exact with_3 _ _ _ _ _ _ b _ w (by omega) hr hr2 hp (e 3)
end Go.Proofs.YtlgnplnmcdjbiaaGreat
namespace Go.Proofs.YtlgnplnmcdjbiaaGreat
open Go.RowKit

/-- A set lies in a block. -/
def Box4 (W : World) (p : Nat) (f : Nat → Nat) : Prop := W.heap[p]? = some (.cells #[.int .u64 (f 0 : Nat), .int .u64 (f 1 : Nat), .int .u64 (f 2 : Nat), .int .u64 (f 3 : Nat)] 147 (0, 0))
theorem Box4.lt {W : World} {p : Nat} {f : Nat → Nat} (h : Box4 W p f) : p < W.heap.size := by
  unfold Box4 at h
  exact (Array.getElem?_eq_some_iff.1 h).1
theorem Box4.cells {W : World} {p : Nat} {f : Nat → Nat} (h : Box4 W p f) : W.cell? ⟨p, 0, none⟩ = some (.int .u64 (f 0 : Nat)) ∧ W.cell? ⟨p, 1, none⟩ = some (.int .u64 (f 1 : Nat)) ∧ W.cell? ⟨p, 2, none⟩ = some (.int .u64 (f 2 : Nat)) ∧ W.cell? ⟨p, 3, none⟩ = some (.int .u64 (f 3 : Nat)) := by
  unfold Box4 at h
  exact ⟨by simp [World.cell?, h], by simp [World.cell?, h], by simp [World.cell?, h], by simp [World.cell?, h]⟩
theorem Box4.frozen {W : World} {p : Nat} {f : Nat → Nat} (h : Box4 W p f) : W.frozen? ⟨p, 0, none⟩ = false ∧ W.frozen? ⟨p, 1, none⟩ = false ∧ W.frozen? ⟨p, 2, none⟩ = false ∧ W.frozen? ⟨p, 3, none⟩ = false := by
  unfold Box4 at h
  exact ⟨by simp [World.frozen?, h], by simp [World.frozen?, h], by simp [World.frozen?, h], by simp [World.frozen?, h]⟩
theorem Box4.at {W : World} {p k : Nat} {f : Nat → Nat} (h : Box4 W p f) (hk : k < 4) : W.cell? ⟨p, k, none⟩ = some (.int .u64 (f k : Nat)) := by
  obtain ⟨a, b, c, d⟩ := h.cells
  have h4 : k = 0 ∨ k = 1 ∨ k = 2 ∨ k = 3 := by omega
  rcases h4 with rfl | rfl | rfl | rfl
  · exact a
  · exact b
  · exact c
  · exact d
theorem Box4.frozenAt {W : World} {p : Nat} {f : Nat → Nat} (h : Box4 W p f) (k : Nat) : W.frozen? ⟨p, k, none⟩ = false := by
  unfold Box4 at h
  simp [World.frozen?, h]
theorem Box4.kept {W W' : World} {B p : Nat} {f : Nat → Nat} (h : Box4 W p f) (hb : Below B W W') (hB : p < B) : Box4 W' p f := by
  unfold Box4
  rw [hb.block p hB]
  exact h
theorem Box4.new (W : World) (f : Nat → Nat) : Box4 (W.alloc (.cells #[.int .u64 (f 0 : Nat), .int .u64 (f 1 : Nat), .int .u64 (f 2 : Nat), .int .u64 (f 3 : Nat)] 147)) W.heap.size f := heap_alloc_new W _
theorem Box4.other {W : World} {p : Nat} {f : Nat → Nat} (h : Box4 W p f) (a : Addr) (v : Value) (hne : a.block ≠ p) : Box4 (W.setCell a v) p f := by
  unfold Box4
  rw [Below.heap_setCell _ _ _ _ (fun e => hne e.symm)]
  exact h
theorem Box4.alloc {W : World} {p : Nat} {f : Nat → Nat} (h : Box4 W p f) (o : Obj) : Box4 (W.alloc o) p f :=
  h.kept ((Below.refl W.heap.size W).alloc (Nat.le_refl _) o) h.lt
theorem Box4.one {W : World} {p j : Nat} {f : Nat → Nat} (h : Box4 W p f) (hj : j < 4) (x : Nat) : Box4 (W.setCell ⟨p, j, none⟩ (.int .u64 (x : Int))) p (fun i => if i = j then x else f i) := by
  unfold Box4 at h ⊢
  rw [heap_setCell_same W p j _ _ (.int .u64 (x : Int)) h]
  have h4 : j = 0 ∨ j = 1 ∨ j = 2 ∨ j = 3 := by omega
  rcases h4 with rfl | rfl | rfl | rfl <;> rfl
theorem Box4.store {W : World} {p : Nat} {f : Nat → Nat} (h : Box4 W p f) (g : Nat → Nat) : Box4 ((((W.setCell ⟨p, 0, none⟩ (.int .u64 (g 0 : Nat))).setCell ⟨p, 1, none⟩ (.int .u64 (g 1 : Nat))).setCell ⟨p, 2, none⟩ (.int .u64 (g 2 : Nat))).setCell ⟨p, 3, none⟩ (.int .u64 (g 3 : Nat))) p g := by
  have h1 := (((h.one (j := 0) (by decide) (g 0)).one (j := 1) (by decide) (g 1)).one (j := 2) (by decide) (g 2)).one (j := 3) (by decide) (g 3)
  unfold Box4 at h1 ⊢
  rw [h1]
  rfl
theorem below_four {B : Nat} {w W : World} {p : Nat} {a b c d : Value} (h : Below B w W) (hp : B ≤ p) : Below B w ((((W.setCell ⟨p, 0, none⟩ a).setCell ⟨p, 1, none⟩ b).setCell ⟨p, 2, none⟩ c).setCell ⟨p, 3, none⟩ d) :=
  (((h.setCell (by exact hp) _).setCell (by exact hp) _).setCell (by exact hp) _).setCell (by exact hp) _
theorem Box4.others {W : World} {p q : Nat} {f : Nat → Nat} (h : Box4 W p f) (a b c d : Value) (hne : q ≠ p) : Box4 ((((W.setCell ⟨q, 0, none⟩ a).setCell ⟨q, 1, none⟩ b).setCell ⟨q, 2, none⟩ c).setCell ⟨q, 3, none⟩ d) p f :=
  (((h.other _ _ hne).other _ _ hne).other _ _ hne).other _ _ hne
theorem Box4.call {W W' : World} {n B p : Nat} {f : Nat → Nat} (h : Box4 W p f) (hb : Below B (W.drewN n) W') (hB : B = (W.drewN n).heap.size) : Box4 W' p f :=
  Box4.kept (W := W.drewN n) h hb (by rw [hB]; exact h.lt)
theorem below_call {w W W' : World} {n C : Nat} (h : Below w.heap.size w W) (hb : Below C (W.drewN n) W') (hC : C = (W.drewN n).heap.size) : Below w.heap.size w W' :=
  (below_drewC n h).trans (hb.mono (by rw [hC]; exact h.size))
theorem Box4.drew {W : World} {p : Nat} {f : Nat → Nat} (h : Box4 W p f) (n : Nat) : Box4 (W.drewN n) p f := h

/-- The set of a text's first k bytes. -/
def setTo (t : ByteArray) (k : Nat) : Nat → Nat := (t.data.toList.take k).foldl (fun f c => withB f c.toNat) (fun _ => 0)
theorem setTo_zero (t : ByteArray) : setTo t 0 = fun _ => 0 := by simp [setTo]
theorem setTo_succ (t : ByteArray) (k : Nat) (h : k < t.size) : setTo t (k + 1) = withB (setTo t k) t[k].toNat := by
  unfold setTo
  rw [List.take_succ_eq_append_getElem (by simpa using h), List.foldl_append]
  simp
  rfl
theorem setTo_set (t : ByteArray) : ∀ k, k ≤ t.size → Set4 (setTo t k)
  | 0, _ => by rw [setTo_zero]; intro j; show 0 < 18446744073709551616; decide
  | k + 1, h => by rw [setTo_succ t k (by omega)]; exact withB_set (setTo_set t k (by omega)) _
theorem inSet_to (t : ByteArray) (i : Nat) : ∀ k, k ≤ t.size → inSet (setTo t k) i = hasUpTo t k i
  | 0, _ => by rw [setTo_zero, hasUpTo_zero, inSet_zero]
  | k + 1, h => by rw [setTo_succ t k (by omega), inSet_with, hasUpTo_succ t k i (by omega), inSet_to t i k (by omega)]
/-- The set of a text. -/
def setOf (t : ByteArray) : Nat → Nat := setTo t t.size
theorem inSet_of (t : ByteArray) (i : Nat) : inSet (setOf t) i = hasByte t i := by
  unfold setOf
  rw [inSet_to t i _ (Nat.le_refl _), hasUpTo_all]
theorem setOf_set (t : ByteArray) : Set4 (setOf t) := setTo_set t _ (Nat.le_refl _)
end Go.Proofs.YtlgnplnmcdjbiaaGreat
namespace Go.Proofs.YtlgnplnmcdjbiaaGreat
open Go.RowKit

/-- What setOfClass hands back. -/
def SetGot (w : World) (t : ByteArray) (e : Ending) (w' : World) : Prop := Below w.heap.size w w' ∧ ((RightC t ∧ e = .returned (.tuple #[setV (setOf t), .bool true])) ∨ (¬ RightC t ∧ e = .returned (.tuple #[setV (fun _ => 0), .bool false])))
theorem box4_zero {W : World} {p : Nat} (h : Box4 W p (fun _ => 0)) : W.cell? ⟨p, 0, none⟩ = some (.int .u64 0) ∧ W.cell? ⟨p, 1, none⟩ = some (.int .u64 0) ∧ W.cell? ⟨p, 2, none⟩ = some (.int .u64 0) ∧ W.cell? ⟨p, 3, none⟩ = some (.int .u64 0) := h.cells
set_option maxRecDepth 100000 in
set_option maxHeartbeats 2000000 in
theorem setOfClass_any (t : ByteArray) (w : World) (hs : t.size ≤ maxLen) :
    Calls Tryz.prog 118 #[.string t] w fun e w' => SetGot w t e w' := by
  unfold maxLen at hs
  go_enter Tryz.func118, Tryz.ntmps118
  go_wp2
  go_loopw [5] (fun i wr => ∃ k : Nat, k ≤ t.size ∧ i = .int .i64 (k : Int) ∧ Below w.heap.size w wr ∧ Box4 wr w.heap.size (fun _ => 0) ∧ Box4 wr (w.heap.size + 1) (setTo t k) ∧ RightTo t k) (fun i _ => t.size - (intOf i).toNat)
  case atStart => 
    refine ⟨0, Nat.zero_le _, rfl, ((Below.refl _ _).alloc (Nat.le_refl _) _).alloc (by simp) _, (Box4.new w (fun _ => 0)).alloc _, ?_, fun i hi h => by omega⟩
    rw [setTo_zero]
    have := Box4.new (w.alloc (.cells #[.int .u64 ((0 : Nat) : Int), .int .u64 ((0 : Nat) : Int), .int .u64 ((0 : Nat) : Int), .int .u64 ((0 : Nat) : Int)] 147)) (fun _ => 0)
    simpa using this
  case round =>
    obtain ⟨k, hk, rfl, hbel, hA, hB, hR⟩ := hrel
    have HW : Hid (Below w.heap.size w wr) := hbel
    have HA : Hid (Box4 wr w.heap.size (fun _ => 0)) := hA
    have HB : Hid (Box4 wr (w.heap.size + 1) (setTo t k)) := hB
    have HR : Hid (RightTo t k) := hR
    have HS : Hid (Set4 (setTo t k)) := setTo_set t k hk
    obtain ⟨a0, a1, a2, a3⟩ := box4_zero hA
    obtain ⟨fa0, fa1, fa2, fa3⟩ := hA.frozen
    obtain ⟨b0, b1, b2, b3⟩ := hB.cells
    obtain ⟨fb0, fb1, fb2, fb3⟩ := hB.frozen
    have lb := hB.lt
    clear hbel hA hB hR
    by_cases hlt : k < t.size
    · have hlt' : (k : Int) < (t.size : Int) := by omega
      have hT : Hid (setTo t (k + 1) = withB (setTo t k) t[k].toNat) := setTo_succ t k hlt
      have hx : Hid (t[k].toNat < 256) := t[k].toNat_lt
      by_cases hk0 : k = 0
      · subst hk0
        have HR1 : Hid (RightTo t (0 + 1)) := fun i hi h => by omega
        clear hlt'
        have hlt' : (0 : Int) < (t.size : Int) := by omega
        go_wp2
        go_quiet (fail)
        go_wp2
        go_region_with (first | (go_at_call 123; refine (with_any (setTo t 0) _ _ HS.out hx.out).mono ?_; rintro e w' ⟨rfl, hb'⟩; have q := HB.out.call hb' rfl; obtain ⟨q0, q1, q2, q3⟩ := q.frozen; obtain ⟨r0, r1, r2, r3⟩ := q.cells))
        all_goals
          have HQ : Hid (Box4 w' (w.heap.size + 1) (setTo t 0)) := q
          have HQA : Hid (Box4 w' w.heap.size (fun _ => 0)) := HA.out.call hb' rfl
          have HQW : Hid (Below w.heap.size w w') := below_call HW.out hb' rfl
          clear q hb' a0 a1 a2 a3 b0 b1 b2 b3 fa0 fa1 fa2 fa3 fb0 fb1 fb2 fb3
          go_wp2
          go_roundw
          case rel =>
            refine ⟨1, by omega, by go_num, below_four HQW.out (by omega), HQA.out.others _ _ _ _ (by omega), ?_, HR1.out⟩
            have h1 := HQ.out.store (withB (setTo t 0) t[0].toNat)
            rw [← hT.out] at h1
            rw [hT.out] at h1 ⊢
            exact h1
          case measure => simp [intOf]; omega
      · obtain ⟨j, hj⟩ : ∃ j, k = j + 1 := ⟨k - 1, by omega⟩
        have HJ : Hid (k = j + 1) := hj
        have hlt2 : (j : Int) < (t.size : Int) := by omega
        have hlt3 : j < t.size := by omega
        have hj0 : (0 : Int) ≤ (j : Int) := by omega
        have hkn : 0 < k := by omega
        have hk00 : (0 : Int) ≤ (k : Int) := by omega
        have wj : IntKind.i64.wrap ((k : Int) - 1) = j := by rw [IntKind.wrap_i64]; omega
        have wj2 : IntKind.i64.wrap (j : Int) = j := by rw [IntKind.wrap_i64]; omega
        have wj3 : (k : Int) - 1 = (j : Int) := by omega
        clear hj hk0
        by_cases hc : t[j].toNat < t[k].toNat
        · have HC : Hid (RightTo t (k + 1)) := right_step HJ.out hlt HR.out hc
          have hc' : ¬ ((t[k].toNat : Int) ≤ (t[j].toNat : Int)) := by omega
          clear hc
          go_wp2
          go_quiet (fail)
          go_wp2
          go_region_with (first | (go_at_call 123; refine (with_any (setTo t k) _ _ HS.out hx.out).mono ?_; rintro e w' ⟨rfl, hb'⟩; have q := HB.out.call hb' rfl; obtain ⟨q0, q1, q2, q3⟩ := q.frozen; obtain ⟨r0, r1, r2, r3⟩ := q.cells))
          all_goals
            have HQ : Hid (Box4 w' (w.heap.size + 1) (setTo t k)) := q
            have HQA : Hid (Box4 w' w.heap.size (fun _ => 0)) := HA.out.call hb' rfl
            have HQW : Hid (Below w.heap.size w w') := below_call HW.out hb' rfl
            clear q hb' a0 a1 a2 a3 b0 b1 b2 b3 fa0 fa1 fa2 fa3 fb0 fb1 fb2 fb3
            go_wp2
            go_roundw
            case rel =>
              refine ⟨k + 1, by omega, by go_num, below_four HQW.out (by omega), HQA.out.others _ _ _ _ (by omega), ?_, HC.out⟩
              have h1 := HQ.out.store (withB (setTo t k) t[k].toNat)
              rw [hT.out]
              exact h1
            case measure => simp [intOf]; omega
        · have HC : Hid (¬ RightC t) := right_bad HJ.out hlt hc
          have hc' : (t[k].toNat : Int) ≤ (t[j].toNat : Int) := by omega
          clear hc
          go_wp2
          go_quiet (fail)
          go_wp2
          refine bodyPost_ret (v := .tuple #[.agg #[.int .u64 0, .int .u64 0, .int .u64 0, .int .u64 0], .bool false]) (by simp [results, Tryz.results118, go_sem, a0, a1, a2, a3]) rfl ?_
          exact ⟨below_four (below_drewC _ HW.out) (Nat.le_refl _), Or.inr ⟨HC.out, rfl⟩⟩
    · have hge : ¬ (k : Int) < (t.size : Int) := by omega
      have HC : Hid (RightC t) := fun i hi => HR.out i hi (by omega)
      obtain rfl : k = t.size := by omega
      go_wp2
      refine bodyPost_ret (v := .tuple #[.agg #[.int .u64 ((setTo t t.size) 0 : Nat), .int .u64 ((setTo t t.size) 1 : Nat), .int .u64 ((setTo t t.size) 2 : Nat), .int .u64 ((setTo t t.size) 3 : Nat)], .bool true]) (by simp [results, Tryz.results118, go_sem, a0, a1, a2, a3]) rfl ?_
      exact ⟨below_four HW.out (Nat.le_refl _), Or.inl ⟨HC.out, rfl⟩⟩
end Go.Proofs.YtlgnplnmcdjbiaaGreat
