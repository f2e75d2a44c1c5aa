/- The document's SameLevel and the law's sameExpr, sameNames, where both are the same. -/
import Derived.Test.YtekfledccpeblaaGreatDoorPd

namespace Go.Proofs.YtekfledccpeblaaGreatDoor
open Go.RowKit

/-- A level's kind, name, parts. -/
def lvK : LvB → Int | .zero => 0 | .succ _ => 1 | .max _ _ => 2 | .imax _ _ => 3 | .param _ => 4
def lvN : LvB → ByteArray | .param p => p | _ => ⟨#[]⟩
def lvA : LvB → List LvB | .succ a => [a] | .max a c => [a, c] | .imax a c => [a, c] | _ => []
theorem lv_induct {P : LvB → Prop} (h : ∀ l, (∀ i (hi : i < (lvA l).length), P (lvA l)[i]) → P l) : ∀ l, P l := by
  intro l
  induction l with
  | zero => exact h _ fun i hi => absurd hi (by simp [lvA])
  | param p => exact h _ fun i hi => absurd hi (by simp [lvA])
  | succ a ih =>
    exact h _ fun i hi => by
      have : i = 0 := by simp [lvA] at hi; omega
      subst this
      exact ih
  | max a c ih1 ih2 =>
    exact h _ fun i hi => by
      have : i = 0 ∨ i = 1 := by simp [lvA] at hi; omega
      rcases this with rfl | rfl
      · exact ih1
      · exact ih2
  | imax a c ih1 ih2 =>
    exact h _ fun i hi => by
      have : i = 0 ∨ i = 1 := by simp [lvA] at hi; omega
      rcases this with rfl | rfl
      · exact ih1
      · exact ih2
theorem InP.open_ {W : World} {S : Nat → Prop} {l : LvB} {v : Value} (h : InP W S l v) : ∃ (A : Option Addr) (c : Nat), v = .agg #[.int .i64 (lvK l), .string (lvN l), .slice A (lvA l).length c] ∧ ∀ i (hi : i < (lvA l).length), ∃ b x, A = some ⟨b, 0, none⟩ ∧ Three W b (i * 3) x ∧ InP W S (lvA l)[i] x := by
  cases l with
  | zero => exact ⟨none, 0, h, fun i hi => absurd hi (by simp [lvA])⟩
  | param p => exact ⟨none, 0, h, fun i hi => absurd hi (by simp [lvA])⟩
  | succ a =>
    obtain ⟨b, cap, x, e, -, h3, ha⟩ := h
    refine ⟨_, _, e, fun i hi => ?_⟩
    have : i = 0 := by simp [lvA] at hi; omega
    subst this
    exact ⟨b, x, rfl, h3, ha⟩
  | max a c =>
    obtain ⟨b, cap, x, y, e, -, h3, h4, ha, hc⟩ := h
    refine ⟨_, _, e, fun i hi => ?_⟩
    have : i = 0 ∨ i = 1 := by simp [lvA] at hi; omega
    rcases this with rfl | rfl
    · exact ⟨b, x, rfl, h3, ha⟩
    · exact ⟨b, y, rfl, h4, hc⟩
  | imax a c =>
    obtain ⟨b, cap, x, y, e, -, h3, h4, ha, hc⟩ := h
    refine ⟨_, _, e, fun i hi => ?_⟩
    have : i = 0 ∨ i = 1 := by simp [lvA] at hi; omega
    rcases this with rfl | rfl
    · exact ⟨b, x, rfl, h3, ha⟩
    · exact ⟨b, y, rfl, h4, hc⟩
theorem cells396 {W : World} {b T : Nat} {v0 v1 v2 : Value} (h : W.heap[b]? = some (.cells #[v0, v1, v2] T (0, 0))) : W.cell? ⟨b, 0, none⟩ = some v0 ∧ W.cell? ⟨b, 1, none⟩ = some v1 ∧ W.cell? ⟨b, 2, none⟩ = some v2 ∧ ∀ i, W.frozen? ⟨b, i, none⟩ = false := ⟨cell_of h 0 rfl, cell_of h 1 rfl, cell_of h 2 rfl, frozen_of h⟩
theorem lvA_len (l : LvB) : (lvA l).length ≤ 2 := by cases l <;> simp [lvA]
theorem InP.later {W W' : World} {S : Nat → Prop} {l : LvB} {v : Value} (h : InP W S l v) (hB : Below W.heap.size W W') : InP W' S l v := h.keep fun b hb hs => ⟨hs, hB.block b hb⟩
theorem Three.later {W W' : World} {b o : Nat} {x : Value} (h : Three W b o x) (hB : Below W.heap.size W W') : Three W' b o x := h.of_block (hB.block _ h.lt)
set_option maxRecDepth 100000 in
set_option maxHeartbeats 8000000 in
theorem sameLevel_calls {S1 S2 : Nat → Prop} : ∀ (l : LvB) (W : World) (v1 v2 : Value), InP W S1 l v1 → InP W S2 l v2 → Calls Tryz.prog 34 #[v1, v2] W fun e w' => e = .returned (.bool true) ∧ Below W.heap.size W w' :=
  lv_induct fun l ih W v1 v2 h1 h2 => by
  obtain ⟨A1, c1, rfl, hp1⟩ := h1.open_
  obtain ⟨A2, c2, rfl, hp2⟩ := h2.open_
  have hlen := lvA_len l
  obtain ⟨n, hn⟩ : ∃ n, n = (lvA l).length := ⟨_, rfl⟩
  have HN := hide hn
  have HP1 := hide hp1
  have HP2 := hide hp2
  have HIh := hide ih
  rw [← hn] at hlen
  rw [← hn]
  clear h1 h2 hp1 hp2 ih hn
  have hq := sameStr_pos (rfl : lvN l = lvN l)
  generalize lvK l = kk at *
  generalize lvN l = nn at *
  have HB0 : Hid (Below W.heap.size W ((W.alloc (.cells #[.int .i64 kk, .string nn, .slice A1 n c1] 96)).alloc (.cells #[.int .i64 kk, .string nn, .slice A2 n c2] 96))) := ((Below.refl _ _).alloc (Nat.le_refl _) _).alloc (by simp) _
  have hb1 := heap_alloc2_old W (.cells #[.int .i64 kk, .string nn, .slice A1 n c1] 96) (.cells #[.int .i64 kk, .string nn, .slice A2 n c2] 96)
  have hb2 := heap_alloc2_new W (.cells #[.int .i64 kk, .string nn, .slice A1 n c1] 96) (.cells #[.int .i64 kk, .string nn, .slice A2 n c2] 96)
  have hsz : ((W.alloc (.cells #[.int .i64 kk, .string nn, .slice A1 n c1] 96)).alloc (.cells #[.int .i64 kk, .string nn, .slice A2 n c2] 96)).heap.size = W.heap.size + 2 := by simp
  have HSz := hide hsz
  have HX1 := hide hb1
  have HX2 := hide hb2
  clear hsz hb1 hb2
  go_enter Tryz.func34, Tryz.ntmps34
  go_upto_region 1 with fail
  generalize (W.alloc (.cells #[.int .i64 kk, .string nn, .slice A1 n c1] 96)).alloc (.cells #[.int .i64 kk, .string nn, .slice A2 n c2] 96) = W1 at *
  obtain ⟨x0, x1, x2, -⟩ := cells396 HX1.out
  obtain ⟨y0, y1, y2, -⟩ := cells396 HX2.out
  go_wp2_with fail
  go_loopg [5] n (fun g v wr => ∃ i : Nat, i + g = n ∧ v = .int .i64 (i : Nat) ∧ Hid (Below W1.heap.size W1 wr))
  case atStart => exact ⟨0, by omega, rfl, Below.refl _ _⟩
  case round =>
    clear x0 x1 x2 y0 y1 y2
    obtain ⟨i, hig, rfl, HB⟩ := hrel
    have HBw : Hid (Below W.heap.size W wr) := hide (HB0.out.trans (HB.out.mono (by have := HSz.out; omega)))
    have hz1 := HSz.out
    have HY1 := hide ((HB.out.block W.heap.size (by omega)).trans HX1.out)
    have HY2 := hide ((HB.out.block (W.heap.size + 1) (by omega)).trans HX2.out)
    obtain ⟨x0, x1, x2, xf⟩ := cells396 HY1.out
    obtain ⟨y0, y1, y2, yf⟩ := cells396 HY2.out
    clear x0 x1 xf y0 y1 yf
    by_cases hi : i < n
    · have e1 : decide ((i : Int) < (n : Int)) = true := by simp; omega
      have e2 : (i : Int) < (n : Int) := by omega
      have hil : i < (lvA l).length := by rw [← HN.out]; exact hi
      obtain ⟨b1, z1, rfl, h3, hI1⟩ := HP1.out i hil
      obtain ⟨b2, z2, rfl, h4, hI2⟩ := HP2.out i hil
      have KC : Hid (Calls Tryz.prog 34 #[z1, z2] wr.drew fun e w' => e = .returned (.bool true) ∧ Below wr.heap.size wr.drew w') := hide (HIh.out i hil wr.drew _ _ ((hI1.later HBw.out).later (Below.refl _ _).drew) ((hI2.later HBw.out).later (Below.refl _ _).drew))
      obtain ⟨k3, n3, A3, m3, c3, rfl, u0, u1, u2⟩ := h3.later HBw.out
      obtain ⟨k4, n4, A4, m4, c4, rfl, v0, v1, v2⟩ := h4.later HBw.out
      clear h3 h4 hI1 hI2
      have HF : Hid (∀ W', Below wr.heap.size wr W' → W'.cell? ⟨W.heap.size, 2, none⟩ = some (.slice (some ⟨b1, 0, none⟩) n c1) ∧ W'.cell? ⟨W.heap.size + 1, 2, none⟩ = some (.slice (some ⟨b2, 0, none⟩) n c2) ∧ W'.cell? ⟨b1, i * 3, none⟩ = some (.int .i64 k3) ∧ W'.cell? ⟨b1, i * 3 + 1, none⟩ = some (.string n3) ∧ W'.cell? ⟨b1, i * 3 + 2, none⟩ = some (.slice A3 m3 c3) ∧ W'.cell? ⟨b2, i * 3, none⟩ = some (.int .i64 k4) ∧ W'.cell? ⟨b2, i * 3 + 1, none⟩ = some (.string n4) ∧ W'.cell? ⟨b2, i * 3 + 2, none⟩ = some (.slice A4 m4 c4)) :=
        hide fun W' hB => ⟨cell_later hB x2, cell_later hB y2, cell_later hB u0, cell_later hB u1, cell_later hB u2, cell_later hB v0, cell_later hB v1, cell_later hB v2⟩
      have HBr : Hid (Below wr.heap.size wr wr.drew) := (Below.refl _ _).drew
      clear u0 u1 u2 v0 v1 v2
      go_upto_region 6 with fail
      clear x2 y2
      go_cut [6] (fun v wx => v = .bool true ∧ Hid (Below wr.heap.size wr wx))
      case first =>
        go_region_held3 (fun w' => w'.cell? ⟨W.heap.size, 2, none⟩ = some (.slice (some ⟨b1, 0, none⟩) n c1) ∧ w'.cell? ⟨W.heap.size + 1, 2, none⟩ = some (.slice (some ⟨b2, 0, none⟩) n c2) ∧ w'.cell? ⟨b1, i * 3, none⟩ = some (.int .i64 k3) ∧ w'.cell? ⟨b1, i * 3 + 1, none⟩ = some (.string n3) ∧ w'.cell? ⟨b1, i * 3 + 2, none⟩ = some (.slice A3 m3 c3) ∧ w'.cell? ⟨b2, i * 3, none⟩ = some (.int .i64 k4) ∧ w'.cell? ⟨b2, i * 3 + 1, none⟩ = some (.string n4) ∧ w'.cell? ⟨b2, i * 3 + 2, none⟩ = some (.slice A4 m4 c4)) (first | assumption | exact HF.out _ HBr.out | exact HF.out _ HB8.out)
          ((go_at_call 34; refine KC.out.mono ?_; rintro e w8 ⟨rfl, hB8⟩; have HB8 := hide (HBr.out.trans hB8)))
        all_goals
          go_wp2_with fail
          go_meet
          exact ⟨rfl, HB8⟩
      case rest =>
        obtain ⟨rfl, HB8⟩ := hcut
        have HB9 := hide (HB.out.trans (HB8.out.mono HB.out.size))
        clear HB8 HF KC HBr HY1 HY2 HBw HB
        go_wp2_with fail
        go_roundg (n - (i + 1))
        case measure => omega
        case rel => exact ⟨i + 1, by omega, by go_num, HB9.out⟩
    · have e1 : decide ((i : Int) < (n : Int)) = false := by simp; omega
      go_wp2_with fail
      go_ret
      exact ⟨rfl, HBw.out⟩
end Go.Proofs.YtekfledccpeblaaGreatDoor

/- The law's sameExpr and sameNames, where both are the same. -/
namespace Go.Proofs.YtekfledccpeblaaGreatDoor
open Go.RowKit

theorem bne_self_bool (b : Bool) : (b != b) = false := by cases b <;> rfl
theorem cells9 {W : World} {b T : Nat} {v0 v1 v2 v3 v4 v5 v6 v7 v8 : Value} (h : W.heap[b]? = some (.cells #[v0, v1, v2, v3, v4, v5, v6, v7, v8] T (0, 0))) : W.cell? ⟨b, 0, none⟩ = some v0 ∧ W.cell? ⟨b, 1, none⟩ = some v1 ∧ W.cell? ⟨b, 2, none⟩ = some v2 ∧ W.cell? ⟨b, 3, none⟩ = some v3 ∧ W.cell? ⟨b, 4, none⟩ = some v4 ∧ W.cell? ⟨b, 5, none⟩ = some v5 ∧ W.cell? ⟨b, 6, none⟩ = some v6 ∧ W.cell? ⟨b, 7, none⟩ = some v7 ∧ W.cell? ⟨b, 8, none⟩ = some v8 :=
  ⟨cell_of h 0 rfl, cell_of h 1 rfl, cell_of h 2 rfl, cell_of h 3 rfl, cell_of h 4 rfl, cell_of h 5 rfl, cell_of h 6 rfl, cell_of h 7 rfl, cell_of h 8 rfl⟩
theorem LvsIn.later {W W' : World} {S : Nat → Prop} {A : Option Addr} {ls : List LvB} (h : LvsIn W S A ls) (hB : Below W.heap.size W W') : LvsIn W' S A ls := h.keep fun b hb hs => ⟨hs, hB.block b hb⟩
section
attribute [local go_sem ↓] ld43_eq
set_option maxRecDepth 100000 in
set_option maxHeartbeats 16000000 in
theorem sameExpr_step {S1 S2 : Nat → Prop} (N : Nat) (hN : N ≤ 1000000) (kd a : Nat) (nm : ByteArray) (ex gi inf im : Bool) (ls : List LvB) (xs : List Ex) (hnl : ls.length ≤ N) (hnx : xs.length ≤ 3) (W : World) (A1 A2 B1 B2 : Option Addr) (c1 c2 d1 d2 : Nat)
    (hl1 : LvsIn W S1 A1 ls) (hl2 : LvsIn W S2 A2 ls) (vs1 vs2 : Nat → Array Value)
    (hb1 : ∀ i, i < xs.length → ∃ b, B1 = some ⟨b, 0, none⟩ ∧ (vs1 i).size = 9 ∧ ∀ q, q < 9 → W.cell? ⟨b, i * 9 + q, none⟩ = (vs1 i)[q]?)
    (hb2 : ∀ i, i < xs.length → ∃ b, B2 = some ⟨b, 0, none⟩ ∧ (vs2 i).size = 9 ∧ ∀ q, q < 9 → W.cell? ⟨b, i * 9 + q, none⟩ = (vs2 i)[q]?)
    (ih : ∀ i (_ : i < xs.length), ∀ W', Below W.heap.size W W' → Calls Tryz.prog 18 #[.agg (vs1 i), .agg (vs2 i)] W' fun e w' => e = .returned (.bool true) ∧ Below W'.heap.size W' w') :
    Calls Tryz.prog 18 #[.agg (xcs (kd : Nat) (a : Nat) nm ex gi inf im (.slice A1 ls.length c1) (.slice B1 xs.length d1)), .agg (xcs (kd : Nat) (a : Nat) nm ex gi inf im (.slice A2 ls.length c2) (.slice B2 xs.length d2))] W fun e w' => e = .returned (.bool true) ∧ Below W.heap.size W w' := by
  have HL1 := hide hl1
  have HL2 := hide hl2
  have HB1 := hide hb1
  have HB2 := hide hb2
  have HIh := hide ih
  clear hl1 hl2 hb1 hb2 ih
  obtain ⟨nl, hnl'⟩ : ∃ n, n = ls.length := ⟨_, rfl⟩
  obtain ⟨nx, hnx'⟩ : ∃ n, n = xs.length := ⟨_, rfl⟩
  have HNl := hide hnl'
  have HNx := hide hnx'
  rw [← hnl'] at hnl
  rw [← hnx'] at hnx
  rw [← hnl', ← hnx']
  clear hnl' hnx'
  have hq := sameStr_pos (rfl : nm = nm)
  have be1 := bne_self_bool ex
  have be2 := bne_self_bool gi
  have be3 := bne_self_bool inf
  have be4 := bne_self_bool im
  have HB0 : Hid (Below W.heap.size W ((W.alloc (.cells (xcs (kd : Nat) (a : Nat) nm ex gi inf im (.slice A1 nl c1) (.slice B1 nx d1)) 43)).alloc (.cells (xcs (kd : Nat) (a : Nat) nm ex gi inf im (.slice A2 nl c2) (.slice B2 nx d2)) 43))) := ((Below.refl _ _).alloc (Nat.le_refl _) _).alloc (by simp) _
  have HX1 := hide (heap_alloc2_old W (.cells (xcs (kd : Nat) (a : Nat) nm ex gi inf im (.slice A1 nl c1) (.slice B1 nx d1)) 43) (.cells (xcs (kd : Nat) (a : Nat) nm ex gi inf im (.slice A2 nl c2) (.slice B2 nx d2)) 43))
  have HX2 := hide (heap_alloc2_new W (.cells (xcs (kd : Nat) (a : Nat) nm ex gi inf im (.slice A1 nl c1) (.slice B1 nx d1)) 43) (.cells (xcs (kd : Nat) (a : Nat) nm ex gi inf im (.slice A2 nl c2) (.slice B2 nx d2)) 43))
  have HSz : Hid (((W.alloc (.cells (xcs (kd : Nat) (a : Nat) nm ex gi inf im (.slice A1 nl c1) (.slice B1 nx d1)) 43)).alloc (.cells (xcs (kd : Nat) (a : Nat) nm ex gi inf im (.slice A2 nl c2) (.slice B2 nx d2)) 43)).heap.size = W.heap.size + 2) := hide (by simp)
  go_enter Tryz.func18, Tryz.ntmps18
  go_upto_region 1 with fail
  generalize (W.alloc (.cells (xcs (kd : Nat) (a : Nat) nm ex gi inf im (.slice A1 nl c1) (.slice B1 nx d1)) 43)).alloc (.cells (xcs (kd : Nat) (a : Nat) nm ex gi inf im (.slice A2 nl c2) (.slice B2 nx d2)) 43) = W1 at *
  obtain ⟨x0, x1, x2, x3, x4, x5, x6, x7, x8⟩ := cells9 HX1.out
  obtain ⟨y0, y1, y2, y3, y4, y5, y6, y7, y8⟩ := cells9 HX2.out
  go_upto_region 3 with fail
  clear x0 x1 x2 x3 x4 x5 x6 x7 x8 y0 y1 y2 y3 y4 y5 y6 y7 y8 hq be1 be2 be3 be4
  go_wp2_with fail
  go_loopg [5] nl (fun g v wr => ∃ i : Nat, i + g = nl ∧ v = .int .i64 (i : Nat) ∧ Hid (Below W1.heap.size W1 wr))
  case atStart => exact ⟨0, by omega, rfl, Below.refl _ _⟩
  case round =>
    obtain ⟨i, hig, rfl, HB⟩ := hrel
    have HBw : Hid (Below W.heap.size W wr) := hide (HB0.out.trans (HB.out.mono (by have := HSz.out; omega)))
    have hz1 := HSz.out
    have HY1 := hide ((HB.out.block W.heap.size (by omega)).trans HX1.out)
    have HY2 := hide ((HB.out.block (W.heap.size + 1) (by omega)).trans HX2.out)
    obtain ⟨x0, x1, x2, x3, x4, x5, x6, x7, x8⟩ := cells9 HY1.out
    obtain ⟨y0, y1, y2, y3, y4, y5, y6, y7, y8⟩ := cells9 HY2.out
    clear x0 x1 x2 x3 x4 x5 x6 y0 y1 y2 y3 y4 y5 y6 HY1 HY2
    by_cases hi : i < nl
    · have e1 : decide ((i : Int) < (nl : Int)) = true := by simp; omega
      have e2 : (i : Int) < (nl : Int) := by omega
      have hil : i < ls.length := by rw [← HNl.out]; exact hi
      obtain ⟨b1, z1, rfl, -, h3, hI1⟩ := HL1.out i hil
      obtain ⟨b2, z2, rfl, -, h4, hI2⟩ := HL2.out i hil
      have KC : Hid (Calls Tryz.prog 34 #[z1, z2] wr.drew fun e w' => e = .returned (.bool true) ∧ Below wr.heap.size wr.drew w') := hide (sameLevel_calls ls[i] wr.drew _ _ ((hI1.later HBw.out).later (Below.refl _ _).drew) ((hI2.later HBw.out).later (Below.refl _ _).drew))
      obtain ⟨k3, n3, A3, m3, c3, rfl, u0, u1, u2⟩ := h3.later HBw.out
      obtain ⟨k4, n4, A4, m4, c4, rfl, v0, v1, v2⟩ := h4.later HBw.out
      clear h3 h4 hI1 hI2 x8 y8
      have HF : Hid (∀ W', Below wr.heap.size wr W' → W'.cell? ⟨W.heap.size, 7, none⟩ = some (.slice (some ⟨b1, 0, none⟩) nl c1) ∧ W'.cell? ⟨W.heap.size + 1, 7, none⟩ = some (.slice (some ⟨b2, 0, none⟩) nl c2) ∧ W'.cell? ⟨b1, i * 3, none⟩ = some (.int .i64 k3) ∧ W'.cell? ⟨b1, i * 3 + 1, none⟩ = some (.string n3) ∧ W'.cell? ⟨b1, i * 3 + 2, none⟩ = some (.slice A3 m3 c3) ∧ W'.cell? ⟨b2, i * 3, none⟩ = some (.int .i64 k4) ∧ W'.cell? ⟨b2, i * 3 + 1, none⟩ = some (.string n4) ∧ W'.cell? ⟨b2, i * 3 + 2, none⟩ = some (.slice A4 m4 c4)) :=
        hide fun W' hB => ⟨cell_later hB x7, cell_later hB y7, cell_later hB u0, cell_later hB u1, cell_later hB u2, cell_later hB v0, cell_later hB v1, cell_later hB v2⟩
      have HBr : Hid (Below wr.heap.size wr wr.drew) := (Below.refl _ _).drew
      clear u0 u1 u2 v0 v1 v2
      go_upto_region 6 with fail
      clear x7 y7
      go_cut [6] (fun v wx => v = .bool true ∧ Hid (Below wr.heap.size wr wx))
      case first =>
        go_region_held3 (fun w' => w'.cell? ⟨W.heap.size, 7, none⟩ = some (.slice (some ⟨b1, 0, none⟩) nl c1) ∧ w'.cell? ⟨W.heap.size + 1, 7, none⟩ = some (.slice (some ⟨b2, 0, none⟩) nl c2) ∧ w'.cell? ⟨b1, i * 3, none⟩ = some (.int .i64 k3) ∧ w'.cell? ⟨b1, i * 3 + 1, none⟩ = some (.string n3) ∧ w'.cell? ⟨b1, i * 3 + 2, none⟩ = some (.slice A3 m3 c3) ∧ w'.cell? ⟨b2, i * 3, none⟩ = some (.int .i64 k4) ∧ w'.cell? ⟨b2, i * 3 + 1, none⟩ = some (.string n4) ∧ w'.cell? ⟨b2, i * 3 + 2, none⟩ = some (.slice A4 m4 c4)) (first | assumption | exact HF.out _ HBr.out | exact HF.out _ HB8.out)
          ((go_at_call 34; refine KC.out.mono ?_; rintro e w8 ⟨rfl, hB8⟩; have HB8 := hide (HBr.out.trans hB8)))
        all_goals
          go_wp2_with fail
          go_meet
          exact ⟨rfl, HB8⟩
      case rest =>
        obtain ⟨rfl, HB8⟩ := hcut
        have HB9 := hide (HB.out.trans (HB8.out.mono HB.out.size))
        clear HB8 HF KC HBr HBw HB
        go_wp2_with fail
        go_roundg (nl - (i + 1))
        case measure => omega
        case rel => exact ⟨i + 1, by omega, by go_num, HB9.out⟩
    · have e1 : decide ((i : Int) < (nl : Int)) = false := by simp; omega
      have HBa := HB
      clear HB
      go_upto_region 9 with fail
      clear e1 x7 x8 y7 y8 HBw
      generalize wr = wv at *
      go_wp2_with fail
      go_loopg [7] nx (fun g v wr => ∃ i : Nat, i + g = nx ∧ v = .int .i64 (i : Nat) ∧ Hid (Below W1.heap.size W1 wr))
      case atStart => exact ⟨0, by omega, rfl, HBa.out⟩
      case round =>
        clear hi hig
        obtain ⟨i, hig, rfl, HB⟩ := hrel
        have HBw : Hid (Below W.heap.size W wr) := hide (HB0.out.trans (HB.out.mono (by have := HSz.out; omega)))
        have HY1 := hide ((HB.out.block W.heap.size (by omega)).trans HX1.out)
        have HY2 := hide ((HB.out.block (W.heap.size + 1) (by omega)).trans HX2.out)
        obtain ⟨x0, x1, x2, x3, x4, x5, x6, x7, x8⟩ := cells9 HY1.out
        obtain ⟨y0, y1, y2, y3, y4, y5, y6, y7, y8⟩ := cells9 HY2.out
        clear x0 x1 x2 x3 x4 x5 x6 x7 y0 y1 y2 y3 y4 y5 y6 y7 HY1 HY2
        by_cases hi : i < nx
        · have e1 : decide ((i : Int) < (nx : Int)) = true := by simp; omega
          have e2 : (i : Int) < (nx : Int) := by omega
          have hil : i < xs.length := by rw [← HNx.out]; exact hi
          obtain ⟨b1, rfl, hz3, h3⟩ := HB1.out i hil
          obtain ⟨b2, rfl, hz4, h4⟩ := HB2.out i hil
          have KC : Hid (Calls Tryz.prog 18 #[.agg (vs1 i), .agg (vs2 i)] wr.drew fun e w' => e = .returned (.bool true) ∧ Below wr.heap.size wr.drew w') := hide (HIh.out i hil wr.drew HBw.out.drew)
          have hl3 := cells_lt hz3 h3
          have hl4 := cells_lt hz4 h4
          have R3 := range_of_cells hz3 h3
          have R4 := range_of_cells hz4 h4
          have HF : Hid (∀ W', Below wr.heap.size wr W' → W'.cell? ⟨W.heap.size, 8, none⟩ = some (.slice (some ⟨b1, 0, none⟩) nx d1) ∧ W'.cell? ⟨W.heap.size + 1, 8, none⟩ = some (.slice (some ⟨b2, 0, none⟩) nx d2) ∧ (ld43 (.pointer (some ⟨b1, i * 9, none⟩))).run Tryz.prog W' = .ok (.agg (vs1 i)) W' ∧ (ld43 (.pointer (some ⟨b2, i * 9, none⟩))).run Tryz.prog W' = .ok (.agg (vs2 i)) W') :=
            hide fun W' hB => ⟨cell_later hB x8, cell_later hB y8, ld43_run (range_block ((hB.block b1 (by have := HBw.out.size; omega)).trans (HBw.out.block b1 hl3)) R3) hz3, ld43_run (range_block ((hB.block b2 (by have := HBw.out.size; omega)).trans (HBw.out.block b2 hl4)) R4) hz4⟩
          have HBr : Hid (Below wr.heap.size wr wr.drew) := (Below.refl _ _).drew
          clear h3 h4 R3 R4 hz3 hz4 hl3 hl4
          go_upto_region 12 with fail
          clear x8 y8
          go_cut [8] (fun v wx => v = .bool true ∧ Hid (Below wr.heap.size wr wx))
          case first =>
            go_region_held3 (fun w' => w'.cell? ⟨W.heap.size, 8, none⟩ = some (.slice (some ⟨b1, 0, none⟩) nx d1) ∧ w'.cell? ⟨W.heap.size + 1, 8, none⟩ = some (.slice (some ⟨b2, 0, none⟩) nx d2) ∧ (ld43 (.pointer (some ⟨b1, i * 9, none⟩))).run Tryz.prog w' = .ok (.agg (vs1 i)) w' ∧ (ld43 (.pointer (some ⟨b2, i * 9, none⟩))).run Tryz.prog w' = .ok (.agg (vs2 i)) w') (first | assumption | exact HF.out _ HBr.out | exact HF.out _ HB8.out)
              ((go_at_call 18; refine KC.out.mono ?_; rintro e w8 ⟨rfl, hB8⟩; have HB8 := hide (HBr.out.trans hB8)))
            all_goals
              go_wp2_with fail
              go_meet
              exact ⟨rfl, HB8⟩
          case rest =>
            obtain ⟨rfl, HB8⟩ := hcut
            have HB9 := hide (HB.out.trans (HB8.out.mono HB.out.size))
            clear HB8 HF KC HBr HBw HB
            go_wp2_with fail
            go_roundg (nx - (i + 1))
            case measure => omega
            case rel => exact ⟨i + 1, by omega, by go_num, HB9.out⟩
        · have e1 : decide ((i : Int) < (nx : Int)) = false := by simp; omega
          go_wp2_with fail
          go_ret
          exact ⟨rfl, HBw.out⟩
end
theorem sameExpr_all {S1 S2 : Nat → Prop} {N : Nat} (hN : N ≤ 1000000) {W : World} {x : Ex} {v1 : Array Value} (h1 : InX W S1 x v1) (hf : ExFit N x) : ∀ v2, InX W S2 x v2 → ∀ W', Below W.heap.size W W' → Calls Tryz.prog 18 #[.agg v1, .agg v2] W' fun e w' => e = .returned (.bool true) ∧ Below W'.heap.size W' w' := by
  induction h1 with
  | mk A c A' c' hl vs hb _ ih =>
    intro v2 h2 W' hB
    cases h2 with
    | mk A2 c2 A2' c2' hl2 vs2 hb2 hx2 =>
      cases hf with
      | mk hfl hfx hfi =>
        refine sameExpr_step (S1 := S1) (S2 := S2) N hN _ _ _ _ _ _ _ _ _ hfl hfx W' _ _ _ _ _ _ _ _ (hl.later hB) (hl2.later hB) vs vs2 (fun i hi => ?_) (fun i hi => ?_) (fun i hi W2 hB2 => ih i hi (hfi i hi) (vs2 i) (hx2 i hi) W2 (hB.trans (hB2.mono hB.size)))
        · obtain ⟨b, e, -, hz, hc⟩ := hb i hi
          exact ⟨b, e, hz, fun q hq => by rw [← hc q hq]; exact World.cell?_of_block (hB.block b (cells_lt hz hc))⟩
        · obtain ⟨b, e, -, hz, hc⟩ := hb2 i hi
          exact ⟨b, e, hz, fun q hq => by rw [← hc q hq]; exact World.cell?_of_block (hB.block b (cells_lt hz hc))⟩
set_option maxRecDepth 100000 in
set_option maxHeartbeats 4000000 in
theorem sameNames_calls {S1 S2 : Nat → Prop} (l : List ByteArray) (hl : l.length ≤ 1000000000000) (W : World) (A1 A2 : Option Addr) (c1 c2 : Nat) (h1 : SsIn W S1 A1 l) (h2 : SsIn W S2 A2 l) :
    Calls Tryz.prog 17 #[.slice A1 l.length c1, .slice A2 l.length c2] W fun e w' => e = .returned (.bool true) ∧ Below W.heap.size W w' := by
  have H1 := hide h1
  have H2 := hide h2
  obtain ⟨n, hn⟩ : ∃ n, n = l.length := ⟨_, rfl⟩
  have HN := hide hn
  rw [← hn] at hl
  rw [← hn]
  clear h1 h2 hn
  go_enter Tryz.func17, Tryz.ntmps17
  go_wp2_with fail
  go_loopg [5] n (fun g v wr => ∃ i : Nat, i + g = n ∧ v = .int .i64 (i : Nat) ∧ Hid (Below W.heap.size W wr))
  case atStart => exact ⟨0, by omega, rfl, Below.refl _ _⟩
  case round =>
    obtain ⟨i, hig, rfl, HB⟩ := hrel
    by_cases hi : i < n
    · have e1 : decide ((i : Int) < (n : Int)) = true := by simp; omega
      have e2 : (i : Int) < (n : Int) := by omega
      have hil : i < l.length := by rw [← HN.out]; exact hi
      obtain ⟨b1, rfl, -, h3⟩ := H1.out i hil
      obtain ⟨b2, rfl, -, h4⟩ := H2.out i hil
      have h3 := cell_later HB.out h3
      have h4 := cell_later HB.out h4
      have hq := sameStr_pos (rfl : l[i] = l[i])
      generalize l[i] = q at *
      go_wp2_with fail
      go_quiet (fail)
      have HB2 := hide (HB.out.trans (below_drewN (Below.refl wr.heap.size wr) nq |>.mono HB.out.size))
      go_wp2_with fail
      go_roundg (n - (i + 1))
      case measure => omega
      case rel => exact ⟨i + 1, by omega, by go_num, HB2.out⟩
    · have e1 : decide ((i : Int) < (n : Int)) = false := by simp; omega
      go_wp2_with fail
      go_ret
      exact ⟨rfl, HB.out⟩
end Go.Proofs.YtekfledccpeblaaGreatDoor
