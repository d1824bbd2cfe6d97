/- What is proved here: a text in which patterns may be is a text of at most 8000 bytes; nothing turns but the source's own block. -/
import Derived.Test.YthnnenbpbkmbhaaGreatQClassRightWToPickW
import Derived.Test.YthnnenbpbkmbhaaGreatQRow8WToRowTW
namespace Go.Proofs.YthnnenbpbkmbhaaGreat
open Go.RowKit

/-- A text that is being drawn. -/
structure TxtIn (w W : World) (b : Nat) (sa : Option Addr) (len cap : Nat) (v : Value) (t : ByteArray) : Prop where
  g : w.grownBy W (some b)
  s : Src W b sa len cap
  o : RowT W w.heap.size v t
theorem RowT.src {w w' : World} {B b : Nat} {v : Value} {t : ByteArray} (h : RowT w B v t) (hg : w.grownBy w' (some b)) (hb : b < B) : RowT w' B v t := by
  obtain ⟨hl, h⟩ := h
  refine ⟨hl, ?_⟩
  rcases h with h | ⟨g, cap, cur, h1, h2, h3, h4⟩
  · exact Or.inl h
  · refine Or.inr ⟨g, cap, cur, h1, h2, ?_, h4⟩
    rw [hg.block g (lt_of_block h3) (fun e => by injection e with e; omega)]
    exact h3
theorem TxtIn.src {w W W' : World} {b : Nat} {sa : Option Addr} {len cap : Nat} {v : Value} {t : ByteArray} (h : TxtIn w W b sa len cap v t) (hb : b < w.heap.size) (hg : W.grownBy W' (some b)) (hs : Src W' b sa len cap) : TxtIn w W' b sa len cap v t := ⟨h.g.trans hg, hs, h.o.src hg hb⟩
theorem TxtIn.app {w W W' : World} {b : Nat} {sa : Option Addr} {len cap : Nat} {v v' : Value} {t t' : ByteArray} (h : TxtIn w W b sa len cap v t) (hb : b < w.heap.size) (ho : RowT W' w.heap.size v' t') (hg : W.grownBy W' v.ownBlock) : TxtIn w W' b sa len cap v' t' :=
  ⟨⟨hg.os.trans h.g.os, hg.tape.trans h.g.tape, hg.output.trans h.g.output, Nat.le_trans h.g.size hg.size, fun k hk hne => (hg.block k (Nat.lt_of_lt_of_le hk h.g.size) (fun e => by have := (h.o.lt k e.symm).1; omega)).trans (h.g.block k hk hne)⟩, h.s.kept hg (fun j e => by have := (h.o.lt j e).1; omega), ho⟩
theorem rowT_start (w : World) (base : Nat) (hb : base ≤ w.heap.size) (C : Array Value) (hC : C.size = 0) : RowT (w.alloc (.cells C 5)) base (.slice (some ⟨w.heap.size, 0, none⟩) 0 0) ⟨#[]⟩ :=
  ⟨rfl, Or.inr ⟨w.heap.size, 0, C, rfl, hb, heap_alloc_new w _, Nat.le_refl _, Nat.zero_le _, by simp [hC], by show List.take (0 * 1) _ = []; simp⟩⟩
set_option maxRecDepth 100000 in
set_option maxHeartbeats 4000000 in
theorem l05Text_any (w : World) (b : Nat) (sa : Option Addr) (len cap : Nat) (hs : Src w b sa len cap) :
    Calls Tryz.prog 47 #[.pointer (some ⟨b, 0, none⟩)] w fun e w' => TextUpTo 8000 e ∧ w.grownBy w' (some b) ∧ Src w' b sa len cap := by
  have hb := hs.lt
  have P0 : Hid (TxtIn w (w.alloc (.cells #[] 5)) b sa len cap (.slice (some ⟨w.heap.size, 0, none⟩) 0 0) ⟨#[]⟩) :=
    ⟨World.grownBy_alloc w _ _, hs.after ((Below.refl _ _).alloc (Nat.le_refl _) _), rowT_start w w.heap.size (Nat.le_refl _) _ rfl⟩
  clear hs
  go_enter Tryz.func47, Tryz.ntmps47
  go_upto_region 2 with fail
  generalize w.alloc (.cells #[] 5) = v0 at *
  obtain ⟨hl, hby, k0, m0, z, hat, hz0, hz1⟩ := P0.out.s
  obtain ⟨c0, c1, c2, c3, f1, f2, f3⟩ := hat.cells
  have bl := lt_of_block hat.1
  clear hby hat c0 c1 c2 f1 f2 f3
  have hz2 : IntKind.i64.wrap (14 + z) = 14 + z := by rw [IntKind.wrap_i64]; omega
  go_wp2_with fail
  refine (n_any _ b sa len cap (14 + z) (by omega) P0.out.s).mono ?_
  rintro e w1 ⟨⟨r, rfl, hr0, hr1, _⟩, hg, hS⟩
  have hr2 : r < 14 + z := hr1 (by omega)
  have hr3 : r ≤ 26 := by omega
  have P1 : Hid (TxtIn w w1 b sa len cap (.slice (some ⟨w.heap.size, 0, none⟩) 0 0) ⟨#[]⟩) := P0.out.src hb hg hS
  clear hr1 hr2 hg hS P0 c3 bl hz2 hz0 hz1 hl
  go_wp2_with fail
  go_loopw [3, 4] (fun v kv wr => ∃ (t : ByteArray) (k : Int), kv = .int .i64 k ∧ 0 ≤ k ∧ (t.size : Int) + 256 * k ≤ 6656 ∧ TxtIn w wr b sa len cap v t) (fun _ kv _ => (intOf kv).toNat)
  case atStart => exact ⟨⟨#[]⟩, r, rfl, hr0, by show ((0 : Nat) : Int) + 256 * r ≤ 6656; omega, P1.out⟩
  case round =>
    obtain ⟨t, k, rfl, hk0, hkt, hp⟩ := hrel
    have HP : Hid (TxtIn w wr b sa len cap u3 t) := hp
    clear hp
    by_cases hk : 0 < k
    · go_wp2_with fail
      have hwb : b < wr.heap.size := HP.out.s.lt
      have PA : Hid (TxtIn w (wr.alloc (.cells #[.string ⟨#[97]⟩, .string ⟨#[98]⟩, .string ⟨#[97]⟩, .string ⟨#[98]⟩, .string ⟨#[99]⟩, .string ⟨#[97, 98]⟩, .string ⟨#[65]⟩] 9)) b sa len cap u3 t) := HP.out.src hb (World.grownBy_alloc _ _ _) (HP.out.s.after ((Below.refl _ _).alloc (Nat.le_refl _) _))
      refine (pick_any _ b sa len cap wr.heap.size 7 (by decide) (by decide) (by omega) ?_ PA.out.s).mono ?_
      · intro i hi
        rcases (show i = 0 ∨ i = 1 ∨ i = 2 ∨ i = 3 ∨ i = 4 ∨ i = 5 ∨ i = 6 from by omega) with rfl | rfl | rfl | rfl | rfl | rfl | rfl
        all_goals exact ⟨_, by rw [World.cell?_alloc_mark]; rfl, by decide⟩
      rintro e w2 ⟨⟨c, rfl, hcs⟩, hg, hS⟩
      have P2 : Hid (TxtIn w w2 b sa len cap u3 t) := PA.out.src hb hg hS
      have hlo : w.heap.size ≤ w2.heap.size := P2.out.g.size
      clear hg hS PA
      go_wp2_with (at_builtin; refine wpList_appT rfl (.tmp 17) (.tmp 20) rfl w.heap.size u3 t c rfl P2.out.o rfl (by omega) hlo ?_)
      intro v' w3 ho3 hb3 hg3
      have P3 : Hid (TxtIn w w3 b sa len cap v' (t ++ c)) := P2.out.app hb ho3 hg3
      have HS : Hid ((t ++ c).size = t.size + c.size) := ByteArray.size_append
      clear ho3 hb3 hg3 P2
      go_wp2_with fail
      go_roundw
      case rel => exact ⟨t ++ c, k - 1, by go_num, by omega, by have := HS.out; omega, P3.out⟩
      case measure => simp [intOf]; omega
    · have hts : t.size ≤ 6656 := by omega
      clear hk0 hkt
      go_wp2_with fail
      refine (one_any _ b sa len cap 8 (by decide) HP.out.s).mono ?_
      rintro e w2 ⟨⟨x, rfl⟩, hg, hS⟩
      have P2 : Hid (TxtIn w w2 b sa len cap u3 t) := HP.out.src hb hg hS
      clear hg hS
      cases x with
      | false =>
        have hcv := P2.out.o.conv
        go_wp2_with fail
        go_ret
        exact ⟨⟨t, rfl, by omega⟩, P2.out.g, P2.out.s⟩
      | true =>
        go_wp2_with fail
        refine (n_any _ b sa len cap 4 (by decide) P2.out.s).mono ?_
        rintro e w3 ⟨⟨q, rfl, hq0, hq1, _⟩, hg, hS⟩
        have hq2 : q < 4 := hq1 (by decide)
        obtain ⟨j, rfl⟩ := Int.eq_ofNat_of_zero_le hq0
        have P3 : Hid (TxtIn w w3 b sa len cap u3 t) := P2.out.src hb hg hS
        clear hq1 hg hS P2
        go_wp2_with fail
        refine (bytes_any _ b sa len cap j (by omega) P3.out.s).mono ?_
        rintro e w4 ⟨⟨c, rfl, hcs⟩, hg, hS⟩
        have P4 : Hid (TxtIn w w4 b sa len cap u3 t) := P3.out.src hb hg hS
        have hlo : w.heap.size ≤ w4.heap.size := P4.out.g.size
        clear hg hS P3
        go_wp2_with (at_builtin; refine wpList_appT rfl (.tmp 24) (.tmp 28) rfl w.heap.size u3 t c rfl P4.out.o rfl (by omega) hlo ?_)
        intro v' w5 ho5 hb5 hg5
        have P5 : Hid (TxtIn w w5 b sa len cap v' (t ++ c)) := P4.out.app hb ho5 hg5
        have HS : Hid ((t ++ c).size = t.size + c.size) := ByteArray.size_append
        clear ho5 hb5 hg5 P4
        have hcv := P5.out.o.conv
        go_wp2_with fail
        go_ret
        exact ⟨⟨t ++ c, rfl, by have := HS.out; omega⟩, P5.out.g, P5.out.s⟩
end Go.Proofs.YthnnenbpbkmbhaaGreat
