/- The contracts of the scanner's termKind, and of Word with it. -/
import Derived.Test.YtnbpmmgekoclpaaGreatDoorDTermD
import Derived.Test.YtnbpmmgekoclpaaGreatDoorBrackBad
import Derived.Deep.MidRow
namespace Go.Proofs.YtnbpmmgekoclpaaGreatDoor
open Go.RowKit

/-- The table of the terms' shapes. -/
def tcs : List Value := [.string ⟨#[]⟩, .bool false, .int .i64 0, .int .i64 0, .string ⟨#[115, 111, 114, 116]⟩, .bool false, .int .i64 1, .int .i64 0, .string ⟨#[99, 111, 110, 115, 116]⟩, .bool true, .int .i64 (-1), .int .i64 0, .string ⟨#[97, 112, 112]⟩, .bool false, .int .i64 0, .int .i64 2, .string ⟨#[108, 97, 109]⟩, .bool false, .int .i64 0, .int .i64 2, .string ⟨#[112, 105]⟩, .bool false, .int .i64 0, .int .i64 2, .string ⟨#[108, 101, 116]⟩, .bool false, .int .i64 0, .int .i64 3]
/-- It is laid so. -/
def TTab (w : World) : Prop := w.rangeAt 1 0 tcs
theorem TTab.c {w : World} (h : TTab w) (j : Nat) (v : Value) (e : tcs[j]? = some v) : w.cell? ⟨1, j, none⟩ = some v := by simpa using h j v e
theorem TTab.of_block {w w' : World} (h : TTab w) (hb : w'.heap[1]? = w.heap[1]?) : TTab w' := fun j v e => (World.cell?_of_block (w := w) hb).trans (h j v e)
theorem TTab.lt {w : World} (h : TTab w) : 1 < w.heap.size := World.block_lt_of_cell? _ _ (h 0 _ rfl)

/-- All tables. -/
structure Tabs2 (w : World) : Prop where
  a : Tabs w
  b : TTab w
theorem Tabs2.lt {w : World} (h : Tabs2 w) : 6 < w.heap.size := h.a.lt
theorem Tabs2.touched {w w' : World} {sc : Nat} (h : Tabs2 w) (ht : Touched w sc w') (hs : 6 < sc) : Tabs2 w' := ⟨h.a.touched ht hs, h.b.of_block (ht.at h.b.lt (by omega))⟩
theorem Tabs2.below {w w' : World} {B : Nat} (h : Tabs2 w) (hb : Below B w w') (hB : 6 < B) : Tabs2 w' := ⟨h.a.below hb hB, h.b.of_block (hb.block 1 (by omega))⟩

theorem tx0 (w : World) : (Instr.index 81 (.agg tcs.toArray) (.int .i64 0)).run Tryz.prog w = .ok (.agg #[.string ⟨#[]⟩, .bool false, .int .i64 0, .int .i64 0]) w := by kernel_rfl
theorem tx1 (w : World) : (Instr.index 81 (.agg tcs.toArray) (.int .i64 1)).run Tryz.prog w = .ok (.agg #[.string ⟨#[115, 111, 114, 116]⟩, .bool false, .int .i64 1, .int .i64 0]) w := by kernel_rfl
theorem tx2 (w : World) : (Instr.index 81 (.agg tcs.toArray) (.int .i64 2)).run Tryz.prog w = .ok (.agg #[.string ⟨#[99, 111, 110, 115, 116]⟩, .bool true, .int .i64 (-1), .int .i64 0]) w := by kernel_rfl
theorem tx3 (w : World) : (Instr.index 81 (.agg tcs.toArray) (.int .i64 3)).run Tryz.prog w = .ok (.agg #[.string ⟨#[97, 112, 112]⟩, .bool false, .int .i64 0, .int .i64 2]) w := by kernel_rfl
theorem tx4 (w : World) : (Instr.index 81 (.agg tcs.toArray) (.int .i64 4)).run Tryz.prog w = .ok (.agg #[.string ⟨#[108, 97, 109]⟩, .bool false, .int .i64 0, .int .i64 2]) w := by kernel_rfl
theorem tx5 (w : World) : (Instr.index 81 (.agg tcs.toArray) (.int .i64 5)).run Tryz.prog w = .ok (.agg #[.string ⟨#[112, 105]⟩, .bool false, .int .i64 0, .int .i64 2]) w := by kernel_rfl
theorem tx6 (w : World) : (Instr.index 81 (.agg tcs.toArray) (.int .i64 6)).run Tryz.prog w = .ok (.agg #[.string ⟨#[108, 101, 116]⟩, .bool false, .int .i64 0, .int .i64 3]) w := by kernel_rfl

/-- Which row of the table a word is. -/
theorem kind_flags {q : ByteArray} {kd : Nat} (h : KindNo q kd) : ([115, 111, 114, 116] == q.toList) = decide (kd = 1) ∧ ([99, 111, 110, 115, 116] == q.toList) = decide (kd = 2) ∧ ([97, 112, 112] == q.toList) = decide (kd = 3) ∧ ([108, 97, 109] == q.toList) = decide (kd = 4) ∧ ([112, 105] == q.toList) = decide (kd = 5) ∧ ([108, 101, 116] == q.toList) = decide (kd = 6) := by
  rcases h with h | ⟨rfl, h⟩
  · exact word_flags h
  · exact ⟨dlitSame_neg (h _ 1 (.inl ⟨rfl, rfl⟩)), dlitSame_neg (h _ 2 (.inr (.inl ⟨rfl, rfl⟩))), dlitSame_neg (h _ 3 (.inr (.inr (.inl ⟨rfl, rfl⟩)))), dlitSame_neg (h _ 4 (.inr (.inr (.inr (.inl ⟨rfl, rfl⟩))))), dlitSame_neg (h _ 5 (.inr (.inr (.inr (.inr (.inl ⟨rfl, rfl⟩)))))), dlitSame_neg (h _ 6 (.inr (.inr (.inr (.inr (.inr ⟨rfl, rfl⟩))))))⟩

theorem KindNo.le {q : ByteArray} {kd : Nat} (h : KindNo q kd) : kd ≤ 6 := by
  rcases h with h | ⟨rfl, _⟩
  · exact h.pos.2
  · omega

set_option maxRecDepth 100000 in
set_option maxHeartbeats 4000000 in
theorem termKind_calls (q : ByteArray) (kd : Nat) (w : World) (hk : KindNo q kd) (h0 : q ≠ ⟨#[]⟩) (ht : Tabs2 w) : Calls Tryz.prog 34 #[.string q] w fun e w' => e = .returned (.int .i64 (kd : Nat)) ∧ Below w.heap.size w w' := by
  have hrg : w.rangeAt 1 0 tcs := ht.b
  clear ht
  have y0 := dlitSame_neg (l := []) h0
  have hfl := kind_flags hk
  have hle := hk.le
  clear h0 hk
  go_enter Tryz.func34, Tryz.ntmps34
  go_wp2_with (refine wpList_load_mid rfl 81 _ rfl 1 0 rfl tcs _ hrg Tryz.underlying81 rfl (by kernel_rfl) ?_)
  clear hrg
  have hx0 := tx0
  have hx1 := tx1
  have hx2 := tx2
  have hx3 := tx3
  have hx4 := tx4
  have hx5 := tx5
  have hx6 := tx6
  go_loopg [6] 7 (fun g i wr => ∃ k : Nat, k + g = 7 ∧ i = .int .i64 k ∧ (kd = 0 ∨ k ≤ kd) ∧ Below w.heap.size w wr)
  case atStart => exact ⟨0, by omega, rfl, by omega, Below.refl _ _⟩
  case round =>
    obtain ⟨k, hkg, rfl, hkk, hbel⟩ := hrel
    have HA : Hid (∀ o, Below w.heap.size w (wr.alloc o)) := fun o => hbel.alloc hbel.size _
    have HB := hide hbel
    clear hbel
    by_cases hk0 : k = 0
    · subst hk0
      have hix := hx0
      clear hfl
      go_wp2_with fail
      go_roundg 6
      case measure => omega
      case rel => exact ⟨1, by omega, by go_num, by omega, HA.out _⟩
    by_cases hk1 : k = 1
    · subst hk1
      have hix := hx1
      by_cases hke : kd = 1
      · have y1 : ([115, 111, 114, 116] == q.toList) = true := by rw [hfl.1]; simp [hke]
        clear hfl
        go_wp2_with fail
        subst hke
        go_ret
        exact ⟨rfl, HA.out _⟩
      · have y1 : ([115, 111, 114, 116] == q.toList) = false := by rw [hfl.1]; simp [hke]
        clear hfl
        go_wp2_with fail
        go_roundg 5
        case measure => omega
        case rel => exact ⟨2, by omega, by go_num, by omega, HA.out _⟩
    by_cases hk2 : k = 2
    · subst hk2
      have hix := hx2
      by_cases hke : kd = 2
      · have y2 : ([99, 111, 110, 115, 116] == q.toList) = true := by rw [hfl.2.1]; simp [hke]
        clear hfl
        go_wp2_with fail
        subst hke
        go_ret
        exact ⟨rfl, HA.out _⟩
      · have y2 : ([99, 111, 110, 115, 116] == q.toList) = false := by rw [hfl.2.1]; simp [hke]
        clear hfl
        go_wp2_with fail
        go_roundg 4
        case measure => omega
        case rel => exact ⟨3, by omega, by go_num, by omega, HA.out _⟩
    by_cases hk3 : k = 3
    · subst hk3
      have hix := hx3
      by_cases hke : kd = 3
      · have y3 : ([97, 112, 112] == q.toList) = true := by rw [hfl.2.2.1]; simp [hke]
        clear hfl
        go_wp2_with fail
        subst hke
        go_ret
        exact ⟨rfl, HA.out _⟩
      · have y3 : ([97, 112, 112] == q.toList) = false := by rw [hfl.2.2.1]; simp [hke]
        clear hfl
        go_wp2_with fail
        go_roundg 3
        case measure => omega
        case rel => exact ⟨4, by omega, by go_num, by omega, HA.out _⟩
    by_cases hk4 : k = 4
    · subst hk4
      have hix := hx4
      by_cases hke : kd = 4
      · have y4 : ([108, 97, 109] == q.toList) = true := by rw [hfl.2.2.2.1]; simp [hke]
        clear hfl
        go_wp2_with fail
        subst hke
        go_ret
        exact ⟨rfl, HA.out _⟩
      · have y4 : ([108, 97, 109] == q.toList) = false := by rw [hfl.2.2.2.1]; simp [hke]
        clear hfl
        go_wp2_with fail
        go_roundg 2
        case measure => omega
        case rel => exact ⟨5, by omega, by go_num, by omega, HA.out _⟩
    by_cases hk5 : k = 5
    · subst hk5
      have hix := hx5
      by_cases hke : kd = 5
      · have y5 : ([112, 105] == q.toList) = true := by rw [hfl.2.2.2.2.1]; simp [hke]
        clear hfl
        go_wp2_with fail
        subst hke
        go_ret
        exact ⟨rfl, HA.out _⟩
      · have y5 : ([112, 105] == q.toList) = false := by rw [hfl.2.2.2.2.1]; simp [hke]
        clear hfl
        go_wp2_with fail
        go_roundg 1
        case measure => omega
        case rel => exact ⟨6, by omega, by go_num, by omega, HA.out _⟩
    by_cases hk6 : k = 6
    · subst hk6
      have hix := hx6
      by_cases hke : kd = 6
      · have y6 : ([108, 101, 116] == q.toList) = true := by rw [hfl.2.2.2.2.2]; simp [hke]
        clear hfl
        go_wp2_with fail
        subst hke
        go_ret
        exact ⟨rfl, HA.out _⟩
      · have y6 : ([108, 101, 116] == q.toList) = false := by rw [hfl.2.2.2.2.2]; simp [hke]
        clear hfl
        go_wp2_with fail
        go_roundg 0
        case measure => omega
        case rel => exact ⟨7, by omega, by go_num, by omega, HA.out _⟩
    have hk : k = 7 := by omega
    subst hk
    have hk0' : kd = 0 := by omega
    clear hk0 hk1 hk2 hk3 hk4 hk5 hk6 hfl
    go_wp2_with fail
    go_ret
    subst hk0'
    exact ⟨rfl, HB.out⟩

set_option maxRecDepth 100000 in
set_option maxHeartbeats 4000000 in
/-- Word, where a word of terms stands. -/
theorem tword_calls (sc : Nat) (s : ByteArray) (p k p' kd : Nat) (q : ByteArray) (w : World) (hn : Nexts s p 3 k p' q) (h : ScAt w sc s p) (ht : Tabs2 w) (hsc : 6 < sc) (hk : TKind q kd) :
    Calls Tryz.prog 33 #[.pointer (some ⟨sc, 0, none⟩), .func (.func 34) #[] #[]] w fun e w' => e = .returned (.int .i64 (kd : Nat)) ∧ ScAt w' sc s p' ∧ Touched w sc w' := by
  have hlt := h.lt
  have hpos : ((kd : Int) == 0) = false := by have := hk.pos; simp; omega
  have hq : q ≠ ⟨#[]⟩ := fun e => by rcases hk with ⟨h, _⟩ | ⟨h, _⟩ | ⟨h, _⟩ | ⟨h, _⟩ | ⟨h, _⟩ | ⟨h, _⟩ <;> rw [e] at h <;> cases h
  have hT0 := ht.below ((Below.refl _ _).alloc (Nat.le_refl _) (.cells #[.int .i64 3] 56)) ht.lt
  have K1 := hide (expect_calls sc s p 3 k p' q [3] (.slice (some ⟨w.heap.size, 0, none⟩) 1 1) _ hn (h.alloc (.cells #[.int .i64 3] 56)) hT0.a hsc (kinds1 3) (fun b n cap e => by injection e with e; injection e with e; injection e with e; omega) (by simp))
  have K2 : Hid (∀ W, Tabs2 W → Calls Tryz.prog 34 #[.string q] W fun e w' => e = .returned (.int .i64 (kd : Nat)) ∧ Below W.heap.size W w') := fun W hW => termKind_calls q kd W (.inl hk) hq hW
  have HT := hide hT0
  clear h ht hn hT0 hk hq
  go_enter Tryz.func33, Tryz.ntmps33
  go_wp2_with (go_at_call 16; refine K1.out.mono ?_)
  rintro e w1 ⟨rfl, hS1, hT1⟩
  have hS2 := hS1.alloc (.cells #[.int .i64 (3 : Nat), .int .i64 (k : Nat), .string q] 58)
  have hT2 := hT1.trans (Touched.alloc w1 sc (.cells #[.int .i64 (3 : Nat), .int .i64 (k : Nat), .string q] 58))
  have K3 := hide (K2.out _ (HT.out.touched hT2 hsc))
  have HS2 := hide hS2
  have HT2 := hide hT2
  clear hS1 hT1 hS2 hT2
  go_wp2_with (go_at_call 34; refine K3.out.mono ?_)
  rintro e w2 ⟨rfl, hb⟩
  have HS3 := hide (HS2.out.below hb)
  have HT3 := hide (((Touched.alloc w sc _).trans HT2.out).later hb)
  clear hb
  go_wp2_with fail
  go_ret
  exact ⟨rfl, HS3.out, HT3.out⟩

set_option maxRecDepth 100000 in
set_option maxHeartbeats 4000000 in
/-- Word, where no name stands. -/
theorem tword_none (sc : Nat) (s : ByteArray) (p k p' kd : Nat) (q : ByteArray) (w : World) (hn : Nexts s p kd k p' q) (h : ScAt w sc s p) (ht : Tabs2 w) (hsc : 6 < sc) (hk : kd ≠ 3) :
    Calls Tryz.prog 33 #[.pointer (some ⟨sc, 0, none⟩), .func (.func 34) #[] #[]] w fun e w' => Threw w sc 1 k e w' := by
  have hlt := h.lt
  have hT0 := ht.below ((Below.refl _ _).alloc (Nat.le_refl _) (.cells #[.int .i64 3] 56)) ht.lt
  have K1 := hide (expect_bad sc s p kd k p' q [3] (.slice (some ⟨w.heap.size, 0, none⟩) 1 1) _ hn (h.alloc (.cells #[.int .i64 3] 56)) hT0.a hsc (kinds1 3) (fun b n cap e => by injection e with e; injection e with e; injection e with e; omega) (by simp) (by simpa using hk))
  clear h ht hn hT0 hk
  go_enter Tryz.func33, Tryz.ntmps33
  go_wp2_with (go_at_call 16; refine K1.out.mono ?_)
  intro e w1 h1
  have H1 := hide (h1.from (Touched.alloc w sc _))
  obtain ⟨fb, rfl, -⟩ := h1
  go_wp2_with fail
  exact ⟨rfl, H1.out⟩

set_option maxRecDepth 100000 in
set_option maxHeartbeats 4000000 in
/-- Word, where another name stands. -/
theorem tword_other (sc : Nat) (s : ByteArray) (p k p' : Nat) (q : ByteArray) (w : World) (hn : Nexts s p 3 k p' q) (h : ScAt w sc s p) (ht : Tabs2 w) (hsc : 6 < sc) (h0 : q ≠ ⟨#[]⟩) (h1 : ∀ q' kd, TKind q' kd → q ≠ q') :
    Calls Tryz.prog 33 #[.pointer (some ⟨sc, 0, none⟩), .func (.func 34) #[] #[]] w fun e w' => Threw w sc 1 k e w' := by
  have hlt := h.lt
  have hT0 := ht.below ((Below.refl _ _).alloc (Nat.le_refl _) (.cells #[.int .i64 3] 56)) ht.lt
  have K1 := hide (expect_calls sc s p 3 k p' q [3] (.slice (some ⟨w.heap.size, 0, none⟩) 1 1) _ hn (h.alloc (.cells #[.int .i64 3] 56)) hT0.a hsc (kinds1 3) (fun b n cap e => by injection e with e; injection e with e; injection e with e; omega) (by simp))
  have K2 : Hid (∀ W, Tabs2 W → Calls Tryz.prog 34 #[.string q] W fun e w' => e = .returned (.int .i64 0) ∧ Below W.heap.size W w') := fun W hW => termKind_calls q 0 W (.inr ⟨rfl, h1⟩) h0 hW
  have HT := hide hT0
  clear h ht hn hT0 h0 h1
  go_enter Tryz.func33, Tryz.ntmps33
  go_wp2_with (go_at_call 16; refine K1.out.mono ?_)
  rintro e w1 ⟨rfl, hS1, hT1⟩
  have hT2 := hT1.trans (Touched.alloc w1 sc (.cells #[.int .i64 (3 : Nat), .int .i64 (k : Nat), .string q] 58))
  have K3 := hide (K2.out _ (HT.out.touched hT2 hsc))
  have hz1 := hT1.size
  have HT2 := hide ((Touched.alloc w sc (.cells #[.int .i64 3] 56)).trans hT2)
  clear hS1 hT1 hT2
  go_wp2_with (go_at_call 34; refine K3.out.mono ?_)
  rintro e w2 ⟨rfl, hb⟩
  have d0 : w2.cell? ⟨w1.heap.size, 0, none⟩ = some (.int .i64 3) := by rw [hb.cell (by simp)]; simp
  have d1 : w2.cell? ⟨w1.heap.size, 1, none⟩ = some (.int .i64 (k : Nat)) := by rw [hb.cell (by simp)]; simp
  have d2 : w2.cell? ⟨w1.heap.size, 2, none⟩ = some (.string q) := by rw [hb.cell (by simp)]; simp
  have HT3 := hide (HT2.out.later hb)
  have K4 := hide (misplaced_calls 3 k q sc w2)
  clear hb
  go_wp2_with (go_at_call 32; refine K4.out.mono ?_)
  intro e w3 h3
  have H3 := hide (h3.from HT3.out)
  obtain ⟨fb, rfl, -⟩ := h3
  go_wp2_with fail
  exact ⟨rfl, H3.out⟩

end Go.Proofs.YtnbpmmgekoclpaaGreatDoor
