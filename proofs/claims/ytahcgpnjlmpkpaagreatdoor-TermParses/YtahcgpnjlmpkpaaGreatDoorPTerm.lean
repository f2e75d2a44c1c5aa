/- What stands in a text is small; the contracts of the scanner's termKind, Word, Name, Before, levels, termInBrackets and Term: where a term stands, it is read; where none does, what is thrown. -/
import Derived.Test.YtahcgpnjlmpkpaaGreatDoorTRead
import Derived.Test.YtahcgpnjlmpkpaaGreatDoorTakeAll
import Derived.Test.YtahcgpnjlmpkpaaGreatDoorBrack
import Derived.Test.YtahcgpnjlmpkpaaGreatDoorAlike
import Derived.Test.YtahcgpnjlmpkpaaGreatDoorDTermD
import Derived.Test.YtahcgpnjlmpkpaaGreatDoorBrackBad
import Derived.Deep.MidRow
namespace Go.Proofs.YtahcgpnjlmpkpaaGreatDoor
open Go.RowKit

theorem SignAt.lt {s : ByteArray} {c p p' : Nat} (h : SignAt s c p p') : p < p' := by have := runTo_ge blankB s p; have := h.2.2; omega
theorem WordAt.lt {s q : ByteArray} {p p' : Nat} (h : WordAt s q p p') : p < p' := by have := runTo_ge blankB s p; have := runTo_ge (fun c => nameB c false) s (runTo blankB s p + 1); have := h.2.2.1; omega
theorem ZeroAt.lt {s : ByteArray} {p p' : Nat} (h : ZeroAt s p p') : p < p' := by have := runTo_ge blankB s p; have := h.2.2.2; omega
theorem Reads.lt {s : ByteArray} : ∀ {l : LvB} {p p' : Nat}, Reads s l p p' → p < p'
  | .zero, _, _, h => ZeroAt.lt h
  | .param _, _, _, h => WordAt.lt h
  | .succ _, _, _, ⟨_, _, _, h1, h2, h3, h4⟩ => by have := h1.lt; have := h2.lt; have := h3.lt; have := h4.lt; omega
  | .max _ _, _, _, ⟨_, _, _, _, h1, h2, h3, h4, h5⟩ => by have := h1.lt; have := h2.lt; have := h3.lt; have := h4.lt; have := h5.lt; omega
  | .imax _ _, _, _, ⟨_, _, _, _, h1, h2, h3, h4, h5⟩ => by have := h1.lt; have := h2.lt; have := h3.lt; have := h4.lt; have := h5.lt; omega

theorem ReadsAll.few {s : ByteArray} : ∀ {ls : List LvB} {p p' : Nat}, p ≤ s.size → ReadsAll s ls p p' → ls.length ≤ p' - p ∧ p ≤ p' ∧ p' ≤ s.size
  | [], p, p', hp, h => by have e : p' = p := h; subst e; exact ⟨by simp, Nat.le_refl _, hp⟩
  | l :: ls, p, p', hp, ⟨p1, h1, h2⟩ => by
    have a := h1.lt
    have b := h1.le
    have ⟨c, d, e⟩ := ReadsAll.few b h2
    exact ⟨by simp; omega, by omega, e⟩

theorem NamePart.le {s nm : ByteArray} {kd p p' : Nat} (h : NamePart s kd nm p p') (hp : p ≤ s.size) : p ≤ p' ∧ p' ≤ s.size := by
  rcases h with ⟨_, h⟩ | ⟨_, _, rfl⟩
  · exact ⟨Nat.le_of_lt h.lt, h.le⟩
  · exact ⟨Nat.le_refl _, hp⟩

theorem LvPart.few {s : ByteArray} {ls : List LvB} {kd p p' : Nat} (h : LvPart s kd ls p p') (hp : p ≤ s.size) : ls.length ≤ s.size ∧ p ≤ p' ∧ p' ≤ s.size := by
  rcases h with ⟨_, l, rfl, h⟩ | ⟨_, h, _⟩ | ⟨_, _, rfl, rfl⟩
  · have := h.lt; have := h.le; exact ⟨by simp; omega, by omega, by omega⟩
  · have ⟨a, b, c⟩ := ReadsAll.few hp h; exact ⟨by omega, b, c⟩
  · exact ⟨by simp, Nat.le_refl _, hp⟩

theorem Seq.at {R : Tm → Nat → Nat → Prop} : ∀ {ts : List Tm} {p p' : Nat}, Seq R ts p p' → ∀ i (hi : i < ts.length), ∃ x y, R ts[i] x y
  | [], _, _, _, _, hi => absurd hi (by simp)
  | _ :: _, _, _, ⟨p1, h1, _⟩, 0, _ => ⟨_, p1, h1⟩
  | _ :: _, _, _, ⟨_, _, h2⟩, i + 1, hi => Seq.at h2 i (by simpa using hi)

theorem IdxAt.small {s : ByteArray} {n p p' : Nat} (h : IdxAt s n p p') : n ≤ 99999 := by
  obtain ⟨h1, h2, h3, h4, h5⟩ := h
  have hd : Digs (s.extract (runTo blankB s p + 1) p') := run_digs (by omega) h3.symm
  have hle := digitEnd_le h1
  have hz : (s.extract (runTo blankB s p + 1) p').data.toList.length ≤ 5 := by
    show (s.extract (runTo blankB s p + 1) p').data.toList.length ≤ 5
    have : (s.extract (runTo blankB s p + 1) p').size = min p' s.size - (runTo blankB s p + 1) := ByteArray.size_extract
    have e : (s.extract (runTo blankB s p + 1) p').data.toList.length = (s.extract (runTo blankB s p + 1) p').size := rfl
    omega
  have hlt := decF_lt (s.extract (runTo blankB s p + 1) p').data.toList 0 hd
  have hp : 10 ^ (s.extract (runTo blankB s p + 1) p').data.toList.length ≤ 10 ^ 5 := Nat.pow_le_pow_right (by decide) hz
  have : n = decF 0 (s.extract (runTo blankB s p + 1) p').data.toList := h5
  omega

/-- What stands in a text is no greater than that. -/
theorem RT.small {s : ByteArray} (hs : s.size ≤ 20000) : ∀ {d : Nat} {t : Tm} {p p' : Nat}, RT s d t p p' → SmallT d t
  | 0, _, _, _, h => absurd h (by simp [RT])
  | d + 1, t, p, p', .inl ⟨h1, h2, h3, h4, h5⟩ => ⟨by omega, h5.small, by rw [h3]; simp, by rw [h4]; simp, fun i hi => absurd hi (by rw [h4]; simp)⟩
  | d + 1, t, p, p', .inr ⟨p1, p2, p3, p4, p5, q, h1, h2, h3, h4, h5, h6, h7, h8, h9⟩ => by
    have a := h5.le h2.le
    have b := h6.few a.2
    refine ⟨h3.pos.2, by omega, by omega, ?_, fun i hi => ?_⟩
    · rw [h8]; unfold tparts; split <;> (try split) <;> omega
    · obtain ⟨x, y, hxy⟩ := h7.at i hi
      exact RT.small hs hxy

end Go.Proofs.YtahcgpnjlmpkpaaGreatDoor

namespace Go.Proofs.YtahcgpnjlmpkpaaGreatDoor
open Go.RowKit

/-- The table of the terms' shapes. -/
def tcs : List Value := [.string ⟨#[]⟩, .bool false, .int .i64 0, .int .i64 0, .string ⟨#[115, 111, 114, 116]⟩, .bool false, .int .i64 1, .int .i64 0, .string ⟨#[99, 111, 110, 115, 116]⟩, .bool true, .int .i64 (-1), .int .i64 0, .string ⟨#[97, 112, 112]⟩, .bool false, .int .i64 0, .int .i64 2, .string ⟨#[108, 97, 109]⟩, .bool false, .int .i64 0, .int .i64 2, .string ⟨#[112, 105]⟩, .bool false, .int .i64 0, .int .i64 2, .string ⟨#[108, 101, 116]⟩, .bool false, .int .i64 0, .int .i64 3]
/-- It is laid so. -/
def TTab (w : World) : Prop := w.rangeAt 1 0 tcs
theorem TTab.c {w : World} (h : TTab w) (j : Nat) (v : Value) (e : tcs[j]? = some v) : w.cell? ⟨1, j, none⟩ = some v := by simpa using h j v e
theorem TTab.of_block {w w' : World} (h : TTab w) (hb : w'.heap[1]? = w.heap[1]?) : TTab w' := fun j v e => (World.cell?_of_block (w := w) hb).trans (h j v e)
theorem TTab.lt {w : World} (h : TTab w) : 1 < w.heap.size := World.block_lt_of_cell? _ _ (h 0 _ rfl)

/-- All tables. -/
structure Tabs2 (w : World) : Prop where
  a : Tabs w
  b : TTab w
theorem Tabs2.lt {w : World} (h : Tabs2 w) : 6 < w.heap.size := h.a.lt
theorem Tabs2.touched {w w' : World} {sc : Nat} (h : Tabs2 w) (ht : Touched w sc w') (hs : 6 < sc) : Tabs2 w' := ⟨h.a.touched ht hs, h.b.of_block (ht.at h.b.lt (by omega))⟩
theorem Tabs2.below {w w' : World} {B : Nat} (h : Tabs2 w) (hb : Below B w w') (hB : 6 < B) : Tabs2 w' := ⟨h.a.below hb hB, h.b.of_block (hb.block 1 (by omega))⟩

theorem tx0 (w : World) : (Instr.index 83 (.agg tcs.toArray) (.int .i64 0)).run Tryz.prog w = .ok (.agg #[.string ⟨#[]⟩, .bool false, .int .i64 0, .int .i64 0]) w := by kernel_rfl
theorem tx1 (w : World) : (Instr.index 83 (.agg tcs.toArray) (.int .i64 1)).run Tryz.prog w = .ok (.agg #[.string ⟨#[115, 111, 114, 116]⟩, .bool false, .int .i64 1, .int .i64 0]) w := by kernel_rfl
theorem tx2 (w : World) : (Instr.index 83 (.agg tcs.toArray) (.int .i64 2)).run Tryz.prog w = .ok (.agg #[.string ⟨#[99, 111, 110, 115, 116]⟩, .bool true, .int .i64 (-1), .int .i64 0]) w := by kernel_rfl
theorem tx3 (w : World) : (Instr.index 83 (.agg tcs.toArray) (.int .i64 3)).run Tryz.prog w = .ok (.agg #[.string ⟨#[97, 112, 112]⟩, .bool false, .int .i64 0, .int .i64 2]) w := by kernel_rfl
theorem tx4 (w : World) : (Instr.index 83 (.agg tcs.toArray) (.int .i64 4)).run Tryz.prog w = .ok (.agg #[.string ⟨#[108, 97, 109]⟩, .bool false, .int .i64 0, .int .i64 2]) w := by kernel_rfl
theorem tx5 (w : World) : (Instr.index 83 (.agg tcs.toArray) (.int .i64 5)).run Tryz.prog w = .ok (.agg #[.string ⟨#[112, 105]⟩, .bool false, .int .i64 0, .int .i64 2]) w := by kernel_rfl
theorem tx6 (w : World) : (Instr.index 83 (.agg tcs.toArray) (.int .i64 6)).run Tryz.prog w = .ok (.agg #[.string ⟨#[108, 101, 116]⟩, .bool false, .int .i64 0, .int .i64 3]) w := by kernel_rfl

/-- Which row of the table a word is. -/
theorem kind_flags {q : ByteArray} {kd : Nat} (h : KindNo q kd) : ([115, 111, 114, 116] == q.toList) = decide (kd = 1) ∧ ([99, 111, 110, 115, 116] == q.toList) = decide (kd = 2) ∧ ([97, 112, 112] == q.toList) = decide (kd = 3) ∧ ([108, 97, 109] == q.toList) = decide (kd = 4) ∧ ([112, 105] == q.toList) = decide (kd = 5) ∧ ([108, 101, 116] == q.toList) = decide (kd = 6) := by
  rcases h with h | ⟨rfl, h⟩
  · exact word_flags h
  · exact ⟨dlitSame_neg (h _ 1 (.inl ⟨rfl, rfl⟩)), dlitSame_neg (h _ 2 (.inr (.inl ⟨rfl, rfl⟩))), dlitSame_neg (h _ 3 (.inr (.inr (.inl ⟨rfl, rfl⟩)))), dlitSame_neg (h _ 4 (.inr (.inr (.inr (.inl ⟨rfl, rfl⟩))))), dlitSame_neg (h _ 5 (.inr (.inr (.inr (.inr (.inl ⟨rfl, rfl⟩)))))), dlitSame_neg (h _ 6 (.inr (.inr (.inr (.inr (.inr ⟨rfl, rfl⟩))))))⟩

theorem KindNo.le {q : ByteArray} {kd : Nat} (h : KindNo q kd) : kd ≤ 6 := by
  rcases h with h | ⟨rfl, _⟩
  · exact h.pos.2
  · omega

set_option maxRecDepth 100000 in
set_option maxHeartbeats 4000000 in
theorem termKind_calls (q : ByteArray) (kd : Nat) (w : World) (hk : KindNo q kd) (h0 : q ≠ ⟨#[]⟩) (ht : Tabs2 w) : Calls Tryz.prog 38 #[.string q] w fun e w' => e = .returned (.int .i64 (kd : Nat)) ∧ Below w.heap.size w w' := by
  have hrg : w.rangeAt 1 0 tcs := ht.b
  clear ht
  have y0 := dlitSame_neg (l := []) h0
  have hfl := kind_flags hk
  have hle := hk.le
  clear h0 hk
  go_enter Tryz.func38, Tryz.ntmps38
  go_wp2_with (refine wpList_load_mid rfl 83 _ rfl 1 0 rfl tcs _ hrg Tryz.underlying83 rfl (by kernel_rfl) ?_)
  clear hrg
  have hx0 := tx0
  have hx1 := tx1
  have hx2 := tx2
  have hx3 := tx3
  have hx4 := tx4
  have hx5 := tx5
  have hx6 := tx6
  go_loopg [6] 7 (fun g i wr => ∃ k : Nat, k + g = 7 ∧ i = .int .i64 k ∧ (kd = 0 ∨ k ≤ kd) ∧ Below w.heap.size w wr)
  case atStart => exact ⟨0, by omega, rfl, by omega, Below.refl _ _⟩
  case round =>
    obtain ⟨k, hkg, rfl, hkk, hbel⟩ := hrel
    have HA : Hid (∀ o, Below w.heap.size w (wr.alloc o)) := fun o => hbel.alloc hbel.size _
    have HB := hide hbel
    clear hbel
    by_cases hk0 : k = 0
    · subst hk0
      have hix := hx0
      clear hfl
      go_wp2_with fail
      go_roundg 6
      case measure => omega
      case rel => exact ⟨1, by omega, by go_num, by omega, HA.out _⟩
    by_cases hk1 : k = 1
    · subst hk1
      have hix := hx1
      by_cases hke : kd = 1
      · have y1 : ([115, 111, 114, 116] == q.toList) = true := by rw [hfl.1]; simp [hke]
        clear hfl
        go_wp2_with fail
        subst hke
        go_ret
        exact ⟨rfl, HA.out _⟩
      · have y1 : ([115, 111, 114, 116] == q.toList) = false := by rw [hfl.1]; simp [hke]
        clear hfl
        go_wp2_with fail
        go_roundg 5
        case measure => omega
        case rel => exact ⟨2, by omega, by go_num, by omega, HA.out _⟩
    by_cases hk2 : k = 2
    · subst hk2
      have hix := hx2
      by_cases hke : kd = 2
      · have y2 : ([99, 111, 110, 115, 116] == q.toList) = true := by rw [hfl.2.1]; simp [hke]
        clear hfl
        go_wp2_with fail
        subst hke
        go_ret
        exact ⟨rfl, HA.out _⟩
      · have y2 : ([99, 111, 110, 115, 116] == q.toList) = false := by rw [hfl.2.1]; simp [hke]
        clear hfl
        go_wp2_with fail
        go_roundg 4
        case measure => omega
        case rel => exact ⟨3, by omega, by go_num, by omega, HA.out _⟩
    by_cases hk3 : k = 3
    · subst hk3
      have hix := hx3
      by_cases hke : kd = 3
      · have y3 : ([97, 112, 112] == q.toList) = true := by rw [hfl.2.2.1]; simp [hke]
        clear hfl
        go_wp2_with fail
        subst hke
        go_ret
        exact ⟨rfl, HA.out _⟩
      · have y3 : ([97, 112, 112] == q.toList) = false := by rw [hfl.2.2.1]; simp [hke]
        clear hfl
        go_wp2_with fail
        go_roundg 3
        case measure => omega
        case rel => exact ⟨4, by omega, by go_num, by omega, HA.out _⟩
    by_cases hk4 : k = 4
    · subst hk4
      have hix := hx4
      by_cases hke : kd = 4
      · have y4 : ([108, 97, 109] == q.toList) = true := by rw [hfl.2.2.2.1]; simp [hke]
        clear hfl
        go_wp2_with fail
        subst hke
        go_ret
        exact ⟨rfl, HA.out _⟩
      · have y4 : ([108, 97, 109] == q.toList) = false := by rw [hfl.2.2.2.1]; simp [hke]
        clear hfl
        go_wp2_with fail
        go_roundg 2
        case measure => omega
        case rel => exact ⟨5, by omega, by go_num, by omega, HA.out _⟩
    by_cases hk5 : k = 5
    · subst hk5
      have hix := hx5
      by_cases hke : kd = 5
      · have y5 : ([112, 105] == q.toList) = true := by rw [hfl.2.2.2.2.1]; simp [hke]
        clear hfl
        go_wp2_with fail
        subst hke
        go_ret
        exact ⟨rfl, HA.out _⟩
      · have y5 : ([112, 105] == q.toList) = false := by rw [hfl.2.2.2.2.1]; simp [hke]
        clear hfl
        go_wp2_with fail
        go_roundg 1
        case measure => omega
        case rel => exact ⟨6, by omega, by go_num, by omega, HA.out _⟩
    by_cases hk6 : k = 6
    · subst hk6
      have hix := hx6
      by_cases hke : kd = 6
      · have y6 : ([108, 101, 116] == q.toList) = true := by rw [hfl.2.2.2.2.2]; simp [hke]
        clear hfl
        go_wp2_with fail
        subst hke
        go_ret
        exact ⟨rfl, HA.out _⟩
      · have y6 : ([108, 101, 116] == q.toList) = false := by rw [hfl.2.2.2.2.2]; simp [hke]
        clear hfl
        go_wp2_with fail
        go_roundg 0
        case measure => omega
        case rel => exact ⟨7, by omega, by go_num, by omega, HA.out _⟩
    have hk : k = 7 := by omega
    subst hk
    have hk0' : kd = 0 := by omega
    clear hk0 hk1 hk2 hk3 hk4 hk5 hk6 hfl
    go_wp2_with fail
    go_ret
    subst hk0'
    exact ⟨rfl, HB.out⟩

set_option maxRecDepth 100000 in
set_option maxHeartbeats 4000000 in
/-- Word, where a word of terms stands. -/
theorem tword_calls (sc : Nat) (s : ByteArray) (p k p' kd : Nat) (q : ByteArray) (w : World) (hn : Nexts s p 3 k p' q) (h : ScAt w sc s p) (ht : Tabs2 w) (hsc : 6 < sc) (hk : TKind q kd) :
    Calls Tryz.prog 37 #[.pointer (some ⟨sc, 0, none⟩), .func (.func 38) #[] #[]] w fun e w' => e = .returned (.int .i64 (kd : Nat)) ∧ ScAt w' sc s p' ∧ Touched w sc w' := by
  have hlt := h.lt
  have hpos : ((kd : Int) == 0) = false := by have := hk.pos; simp; omega
  have hq : q ≠ ⟨#[]⟩ := fun e => by rcases hk with ⟨h, _⟩ | ⟨h, _⟩ | ⟨h, _⟩ | ⟨h, _⟩ | ⟨h, _⟩ | ⟨h, _⟩ <;> rw [e] at h <;> cases h
  have hT0 := ht.below ((Below.refl _ _).alloc (Nat.le_refl _) (.cells #[.int .i64 3] 56)) ht.lt
  have K1 := hide (expect_calls sc s p 3 k p' q [3] (.slice (some ⟨w.heap.size, 0, none⟩) 1 1) _ hn (h.alloc (.cells #[.int .i64 3] 56)) hT0.a hsc (kinds1 3) (fun b n cap e => by injection e with e; injection e with e; injection e with e; omega) (by simp))
  have K2 : Hid (∀ W, Tabs2 W → Calls Tryz.prog 38 #[.string q] W fun e w' => e = .returned (.int .i64 (kd : Nat)) ∧ Below W.heap.size W w') := fun W hW => termKind_calls q kd W (.inl hk) hq hW
  have HT := hide hT0
  clear h ht hn hT0 hk hq
  go_enter Tryz.func37, Tryz.ntmps37
  go_wp2_with (go_at_call 18; refine K1.out.mono ?_)
  rintro e w1 ⟨rfl, hS1, hT1⟩
  have hS2 := hS1.alloc (.cells #[.int .i64 (3 : Nat), .int .i64 (k : Nat), .string q] 58)
  have hT2 := hT1.trans (Touched.alloc w1 sc (.cells #[.int .i64 (3 : Nat), .int .i64 (k : Nat), .string q] 58))
  have K3 := hide (K2.out _ (HT.out.touched hT2 hsc))
  have HS2 := hide hS2
  have HT2 := hide hT2
  clear hS1 hT1 hS2 hT2
  go_wp2_with (go_at_call 38; refine K3.out.mono ?_)
  rintro e w2 ⟨rfl, hb⟩
  have HS3 := hide (HS2.out.below hb)
  have HT3 := hide (((Touched.alloc w sc _).trans HT2.out).later hb)
  clear hb
  go_wp2_with fail
  go_ret
  exact ⟨rfl, HS3.out, HT3.out⟩

set_option maxRecDepth 100000 in
set_option maxHeartbeats 4000000 in
/-- Word, where no name stands. -/
theorem tword_none (sc : Nat) (s : ByteArray) (p k p' kd : Nat) (q : ByteArray) (w : World) (hn : Nexts s p kd k p' q) (h : ScAt w sc s p) (ht : Tabs2 w) (hsc : 6 < sc) (hk : kd ≠ 3) :
    Calls Tryz.prog 37 #[.pointer (some ⟨sc, 0, none⟩), .func (.func 38) #[] #[]] w fun e w' => Threw w sc 1 k e w' := by
  have hlt := h.lt
  have hT0 := ht.below ((Below.refl _ _).alloc (Nat.le_refl _) (.cells #[.int .i64 3] 56)) ht.lt
  have K1 := hide (expect_bad sc s p kd k p' q [3] (.slice (some ⟨w.heap.size, 0, none⟩) 1 1) _ hn (h.alloc (.cells #[.int .i64 3] 56)) hT0.a hsc (kinds1 3) (fun b n cap e => by injection e with e; injection e with e; injection e with e; omega) (by simp) (by simpa using hk))
  clear h ht hn hT0 hk
  go_enter Tryz.func37, Tryz.ntmps37
  go_wp2_with (go_at_call 18; refine K1.out.mono ?_)
  intro e w1 h1
  have H1 := hide (h1.from (Touched.alloc w sc _))
  obtain ⟨fb, rfl, -⟩ := h1
  go_wp2_with fail
  exact ⟨rfl, H1.out⟩

set_option maxRecDepth 100000 in
set_option maxHeartbeats 4000000 in
/-- Word, where another name stands. -/
theorem tword_other (sc : Nat) (s : ByteArray) (p k p' : Nat) (q : ByteArray) (w : World) (hn : Nexts s p 3 k p' q) (h : ScAt w sc s p) (ht : Tabs2 w) (hsc : 6 < sc) (h0 : q ≠ ⟨#[]⟩) (h1 : ∀ q' kd, TKind q' kd → q ≠ q') :
    Calls Tryz.prog 37 #[.pointer (some ⟨sc, 0, none⟩), .func (.func 38) #[] #[]] w fun e w' => Threw w sc 1 k e w' := by
  have hlt := h.lt
  have hT0 := ht.below ((Below.refl _ _).alloc (Nat.le_refl _) (.cells #[.int .i64 3] 56)) ht.lt
  have K1 := hide (expect_calls sc s p 3 k p' q [3] (.slice (some ⟨w.heap.size, 0, none⟩) 1 1) _ hn (h.alloc (.cells #[.int .i64 3] 56)) hT0.a hsc (kinds1 3) (fun b n cap e => by injection e with e; injection e with e; injection e with e; omega) (by simp))
  have K2 : Hid (∀ W, Tabs2 W → Calls Tryz.prog 38 #[.string q] W fun e w' => e = .returned (.int .i64 0) ∧ Below W.heap.size W w') := fun W hW => termKind_calls q 0 W (.inr ⟨rfl, h1⟩) h0 hW
  have HT := hide hT0
  clear h ht hn hT0 h0 h1
  go_enter Tryz.func37, Tryz.ntmps37
  go_wp2_with (go_at_call 18; refine K1.out.mono ?_)
  rintro e w1 ⟨rfl, hS1, hT1⟩
  have hT2 := hT1.trans (Touched.alloc w1 sc (.cells #[.int .i64 (3 : Nat), .int .i64 (k : Nat), .string q] 58))
  have K3 := hide (K2.out _ (HT.out.touched hT2 hsc))
  have hz1 := hT1.size
  have HT2 := hide ((Touched.alloc w sc (.cells #[.int .i64 3] 56)).trans hT2)
  clear hS1 hT1 hT2
  go_wp2_with (go_at_call 38; refine K3.out.mono ?_)
  rintro e w2 ⟨rfl, hb⟩
  have d0 : w2.cell? ⟨w1.heap.size, 0, none⟩ = some (.int .i64 3) := by rw [hb.cell (by simp)]; simp
  have d1 : w2.cell? ⟨w1.heap.size, 1, none⟩ = some (.int .i64 (k : Nat)) := by rw [hb.cell (by simp)]; simp
  have d2 : w2.cell? ⟨w1.heap.size, 2, none⟩ = some (.string q) := by rw [hb.cell (by simp)]; simp
  have HT3 := hide (HT2.out.later hb)
  have K4 := hide (misplaced_calls 3 k q sc w2)
  clear hb
  go_wp2_with (go_at_call 36; refine K4.out.mono ?_)
  intro e w3 h3
  have H3 := hide (h3.from HT3.out)
  obtain ⟨fb, rfl, -⟩ := h3
  go_wp2_with fail
  exact ⟨rfl, H3.out⟩

end Go.Proofs.YtahcgpnjlmpkpaaGreatDoor

namespace Go.Proofs.YtahcgpnjlmpkpaaGreatDoor
open Go.RowKit

/-- An index's digits are good where they are few and no 0 leads them. -/
theorem good_iff {s : ByteArray} {k q : Nat} (hk : k < s.size) (hq : q = digitEnd s k) : (good (s.extract (k + 1) q) = true ↔ ¬ (q = k + 1 ∨ 5 < q - (k + 1) ∨ (1 < q - (k + 1) ∧ at_ s (k + 1) = 48))) ∧ (good (s.extract (k + 1) q) = true → numOf (s.extract (k + 1) q) 99999 = some ((decV (s.extract (k + 1) q) : Nat) : Int)) := by
  have hge := digitEnd_ge s k
  have hle := digitEnd_le hk
  rw [← hq] at hge hle
  have hd : Digs (s.extract (k + 1) q) := run_digs (by omega) hq.symm
  have hz : (s.extract (k + 1) q).size = q - (k + 1) := by rw [ByteArray.size_extract]; omega
  have hn := numOf_digits hd
  have hc : (1 < (s.extract (k + 1) q).size ∧ at_ (s.extract (k + 1) q) 0 = 48) ↔ (1 < q - (k + 1) ∧ at_ s (k + 1) = 48) := by
    rw [hz]
    constructor
    · rintro ⟨h1, h2⟩; rw [extract_first (by omega) hle] at h2; exact ⟨h1, h2⟩
    · rintro ⟨h1, h2⟩; rw [extract_first (by omega) hle]; exact ⟨h1, h2⟩
  have hx : ((s.extract (k + 1) q).size = 0 ∨ 5 < (s.extract (k + 1) q).size ∨ (1 < (s.extract (k + 1) q).size ∧ at_ (s.extract (k + 1) q) 0 = 48)) ↔ (q = k + 1 ∨ 5 < q - (k + 1) ∨ (1 < q - (k + 1) ∧ at_ s (k + 1) = 48)) := by
    rw [hc, hz]
    constructor
    · rintro (h | h | h)
      · exact .inl (by omega)
      · exact .inr (.inl h)
      · exact .inr (.inr h)
    · rintro (h | h | h)
      · exact .inl (by omega)
      · exact .inr (.inl h)
      · exact .inr (.inr h)
  unfold good
  by_cases h : q = k + 1 ∨ 5 < q - (k + 1) ∨ (1 < q - (k + 1) ∧ at_ s (k + 1) = 48)
  · rw [hn, if_pos (hx.2 h)]
    exact ⟨⟨fun e => by simp at e, fun e => absurd h e⟩, fun e => by simp at e⟩
  · rw [hn, if_neg (fun e => h (hx.1 e))]
    exact ⟨⟨fun _ => h, fun _ => rfl⟩, fun _ => rfl⟩

theorem scan_35 {s : ByteArray} {k : Nat} (h : at_ s k = 35) : scanAt good s k = (if good (s.extract (k + 1) (digitEnd s k)) = true then 5 else 6, digitEnd s k) := by
  unfold scanAt
  rw [if_neg (by omega), if_neg (by omega), if_neg (by rw [h]; decide), if_pos h]

theorem IdxAt.nexts {s : ByteArray} {n p p' : Nat} (hs : s.size ≤ 20000) (hp : p ≤ s.size) (h : IdxAt s n p p') : Nexts s p 5 (runTo blankB s p) p' (s.extract (runTo blankB s p) p') := by
  have hx := next_all (s := s) (p := p) hs hp
  obtain ⟨hk, hc, he, hg, _⟩ := h
  have hne : runTo blankB s p ≠ s.size := by omega
  have hgood : good (s.extract (runTo blankB s p + 1) (digitEnd s (runTo blankB s p))) = true := (good_iff hk rfl).1.2 (by rw [← he]; exact hg)
  have hsc : scanAt good s (runTo blankB s p) = (5, digitEnd s (runTo blankB s p)) := by rw [scan_35 hc, if_pos hgood]
  unfold ntext at hx
  rw [if_neg hne, ntok_in hne, hsc] at hx
  rw [he]
  exact hx

/-- Where no term begins, neither an opening bracket nor an index is next. -/
theorem noterm_kind {s : ByteArray} {p : Nat} (hp : p ≤ s.size) (h : NoTm s p) : (ntok s p).1 ≠ 1 ∧ (ntok s p).1 ≠ 5 := by
  by_cases he : runTo blankB s p = s.size
  · rw [ntok_end he]; simp
  · have hk : runTo blankB s p < s.size := by have := runTo_le blankB s hp; omega
    rw [ntok_in he]
    show (scanAt good s (runTo blankB s p)).1 ≠ 1 ∧ (scanAt good s (runTo blankB s p)).1 ≠ 5
    by_cases h0 : at_ s (runTo blankB s p) = 40
    · exact absurd (sign_tok ⟨hk, h0, rfl⟩) h.1
    by_cases h3 : at_ s (runTo blankB s p) = 35
    · rw [scan_35 h3]
      by_cases hg : good (s.extract (runTo blankB s p + 1) (digitEnd s (runTo blankB s p))) = true
      · have hix : IdxAt s _ p (digitEnd s (runTo blankB s p)) := ⟨hk, h3, rfl, (good_iff hk rfl).1.1 hg, rfl⟩
        obtain ⟨e1, e2⟩ := idx_tok hix
        rcases h.2 with h4 | h4
        · have e3 := congrArg ByteArray.size (e1.symm.trans h4)
          have e0 : (⟨#[]⟩ : ByteArray).size = 0 := rfl
          rw [ByteArray.size_extract, e0] at e3
          have := digitEnd_ge s (runTo blankB s p)
          have := digitEnd_le hk
          omega
        · exact absurd e2 h4
      · rw [if_neg hg]; simp
    · unfold scanAt
      rw [if_neg h0]
      split
      · simp
      · split
        · simp
        · split
          · split <;> simp
          · simp

theorem noname_kind {s : ByteArray} {p : Nat} (hp : p ≤ s.size) (h : isNameB (tok s p).t = false) : (ntok s p).1 ≠ 3 := by
  by_cases he : runTo blankB s p = s.size
  · rw [ntok_end he]; simp
  · have hk : runTo blankB s p < s.size := by have := runTo_le blankB s hp; omega
    rw [ntok_in he]
    intro h3
    have h3' : (scanAt good s (runTo blankB s p)).1 = 3 := h3
    have hw : WordAt s (s.extract (runTo blankB s p) (nameEnd s (runTo blankB s p))) p (nameEnd s (runTo blankB s p)) := by
      unfold scanAt at h3'
      split at h3'
      · simp at h3'
      · split at h3'
        · simp at h3'
        · split at h3'
          · simp at h3'
          · split at h3'
            · split at h3' <;> simp at h3'
            · split at h3'
              · rename_i hnm
                split at h3'
                · rename_i hle
                  exact ⟨hk, hnm, rfl, hle, rfl⟩
                · simp at h3'
              · simp at h3'
    obtain ⟨e1, e2⟩ := word_tok hw
    rw [e1, e2] at h
    cases h

theorem noshut_kind {s : ByteArray} {p : Nat} (hp : p ≤ s.size) (h : (tok s p).t ≠ ⟨#[41]⟩) : (ntok s p).1 ≠ 2 := by
  by_cases he : runTo blankB s p = s.size
  · rw [ntok_end he]; simp
  · rw [ntok_in he]
    exact scan_close (by have := runTo_le blankB s hp; omega) h

theorem tfield2 (x y : Int) (q : ByteArray) (w : World) : (Instr.field 58 (.agg #[.int .i64 x, .int .i64 y, .string q]) 2).run Tryz.prog w = .ok (.string q) w := by kernel_rfl
theorem tfield0 (x y : Int) (q : ByteArray) (w : World) : (Instr.field 58 (.agg #[.int .i64 x, .int .i64 y, .string q]) 0).run Tryz.prog w = .ok (.int .i64 x) w := by kernel_rfl

set_option maxRecDepth 100000 in
set_option maxHeartbeats 1000000 in
theorem pname_calls (sc : Nat) (s : ByteArray) (p p' : Nat) (q : ByteArray) (w : World) (hs : s.size ≤ 20000) (hp : p ≤ s.size) (hw : WordAt s q p p') (h : ScAt w sc s p) (ht : Tabs w) (hsc : 6 < sc) :
    Calls Tryz.prog 39 #[.pointer (some ⟨sc, 0, none⟩)] w fun e w' => e = .returned (.string q) ∧ ScAt w' sc s p' ∧ Touched w sc w' := by
  have hlt := h.lt
  have K1 := hide (expect_calls sc s p 3 _ p' q [3] (.slice (some ⟨w.heap.size, 0, none⟩) 1 1) _ (hw.nexts hs hp) (h.alloc (.cells #[.int .i64 3] 56)) (ht.below ((Below.refl _ _).alloc (Nat.le_refl _) _) ht.lt) hsc (kinds1 3) (fun b n cap e => by injection e with e; injection e with e; injection e with e; omega) (by simp))
  clear h ht hw
  generalize runTo blankB s p = k at *
  go_enter Tryz.func39, Tryz.ntmps39
  go_wp2_with (go_at_call 18; refine K1.out.mono ?_)
  rintro e w1 ⟨rfl, hS1, hT1⟩
  have HS := hide hS1
  have HT := hide ((Touched.alloc w sc (.cells #[.int .i64 3] 56)).trans hT1)
  clear hS1 hT1
  have hfx := tfield2
  go_wp2_with fail
  go_ret
  exact ⟨rfl, HS.out, HT.out⟩

set_option maxRecDepth 100000 in
set_option maxHeartbeats 1000000 in
theorem pname_none (sc : Nat) (s : ByteArray) (p : Nat) (w : World) (hs : s.size ≤ 20000) (hp : p ≤ s.size) (hn : isNameB (tok s p).t = false) (h : ScAt w sc s p) (ht : Tabs w) (hsc : 6 < sc) :
    Calls Tryz.prog 39 #[.pointer (some ⟨sc, 0, none⟩)] w fun e w' => Threw w sc 1 (runTo blankB s p) e w' := by
  have hlt := h.lt
  have K1 := hide (expect_bad sc s p _ _ _ _ [3] (.slice (some ⟨w.heap.size, 0, none⟩) 1 1) _ (next_all hs hp) (h.alloc (.cells #[.int .i64 3] 56)) (ht.below ((Below.refl _ _).alloc (Nat.le_refl _) _) ht.lt) hsc (kinds1 3) (fun b n cap e => by injection e with e; injection e with e; injection e with e; omega) (by simp) (by simpa using noname_kind hp hn))
  clear h ht hn
  generalize runTo blankB s p = k at *
  go_enter Tryz.func39, Tryz.ntmps39
  go_wp2_with (go_at_call 18; refine K1.out.mono ?_)
  intro e w1 h1
  have H1 := hide (h1.from (Touched.alloc w sc _))
  obtain ⟨fb, rfl, -⟩ := h1
  go_wp2_with fail
  exact ⟨rfl, H1.out⟩

set_option maxRecDepth 100000 in
set_option maxHeartbeats 1000000 in
/-- Before: whether the closing bracket is next. -/
theorem before_calls (sc : Nat) (s : ByteArray) (p : Nat) (w : World) (hs : s.size ≤ 20000) (hp : p ≤ s.size) (h : ScAt w sc s p) (ht : Tabs w) :
    Calls Tryz.prog 53 #[.pointer (some ⟨sc, 0, none⟩), .int .i64 2] w fun e w' => e = .returned (.bool (decide ((tok s p).t = ⟨#[41]⟩))) ∧ Below w.heap.size w w' := by
  have hlt := h.lt
  have c0 := h.c0
  have c1 := h.c1
  have hx : ∃ kd k p' t, Nexts s p kd k p' t ∧ ((kd : Int) == 2) = decide ((tok s p).t = ⟨#[41]⟩) := by
    by_cases hc : (tok s p).t = ⟨#[41]⟩
    · exact ⟨2, _, _, _, (tok_shut hp hc).nexts hs hp 2 (.inr ⟨rfl, rfl⟩), by simp [hc]⟩
    · refine ⟨_, _, _, _, next_all hs hp, ?_⟩
      have := noshut_kind hp hc
      simp [hc]; omega
  obtain ⟨kd, k, p', t, hn, he⟩ := hx
  have h6 := ht.lt
  have hS : ScAt (w.alloc (.cells #[.string s, .int .i64 (p : Nat)] 55)) w.heap.size s p := heap_alloc_new w _
  have hB : Below w.heap.size w (w.alloc (.cells #[.string s, .int .i64 (p : Nat)] 55)) := (Below.refl _ _).alloc (Nat.le_refl _) _
  have K1 := hide (hn w.heap.size _ hS (ht.below hB h6) h6)
  have HB := hide hB
  clear h ht hn hS hB
  go_enter Tryz.func53, Tryz.ntmps53
  go_wp2_with (go_at_call 34; refine K1.out.mono ?_)
  rintro e w1 ⟨rfl, hS1, hT1⟩
  have HT := hide (HB.out.trans (hT1.below (B := w.heap.size) (by simp) (Nat.le_refl _)))
  clear hS1 hT1
  have hfx := tfield0
  go_wp2_with fail
  go_ret
  exact ⟨by rw [← he]; rfl, HT.out⟩

end Go.Proofs.YtahcgpnjlmpkpaaGreatDoor

namespace Go.Proofs.YtahcgpnjlmpkpaaGreatDoor
open Go.RowKit

theorem Row.nextv {W w5 w6 : World} {n0 n m : Nat} {ks : List LvB} {l : LvB} {rv rv' : Value} {xs : List Value} {k : Int} {nm : ByteArray} {A : Option Addr} {cap : Nat} (h : Row W 0 n0 ks rv xs) (hnm : n0 ≤ m) (hm' : ∀ g, rv.ownBlock = some g → g < m)
    (hz : W.heap.size ≤ w5.heap.size) (hw : ∀ b, b < W.heap.size → n0 ≤ b → w5.heap[b]? = W.heap[b]?) (hx : InP w5 (fun b => m ≤ b) l (.agg #[.int .i64 k, .string nm, .slice A n cap]))
    (hown : w6.ownsRow n0 68 3 rv' (xs.length + 1) (flat xs ++ [.int .i64 k, .string nm, .slice A n cap])) (hgr : (w5.alloc (.cells #[.int .i64 k, .string nm, .slice A n cap] 68)).grownBy w6 rv.ownBlock)
    (hpl : rv'.ownBlock = rv.ownBlock ∨ rv'.ownBlock = some (w5.alloc (.cells #[.int .i64 k, .string nm, .slice A n cap] 68)).heap.size) :
    Row w6 0 n0 (ks ++ [l]) rv' (xs ++ [.agg #[.int .i64 k, .string nm, .slice A n cap]]) := by
  have hblock : ∀ b, b < w5.heap.size → rv.ownBlock ≠ some b → w6.heap[b]? = w5.heap[b]? := fun b hb hne => by
    rw [hgr.block b (by simp; omega) (fun e => hne e.symm)]
    exact Below.heap_alloc _ _ _ hb
  have hne' : ∀ b, b < w5.heap.size → rv.ownBlock ≠ some b → rv'.ownBlock ≠ some b := fun b hb hne => by
    rcases hpl with e | e
    · rw [e]; exact hne
    · rw [e]; simp; omega
  refine ⟨?_, fun e => by simp at e, by simp [h.len], fun j hj hj' => ?_⟩
  · have : flat (xs ++ [Value.agg #[.int .i64 k, .string nm, .slice A n cap]]) = flat xs ++ [.int .i64 k, .string nm, .slice A n cap] := by rw [flat_append]; simp [flat]
    rw [this, List.length_append, List.length_singleton]
    exact hown
  · by_cases hjx : j < xs.length
    · have hjk : j < ks.length := by rw [← h.len]; exact hjx
      rw [List.getElem_append_left hjx, List.getElem_append_left hjk]
      refine (h.parts j hjx hjk).keep fun b hb hS => ⟨⟨hS.1, hne' b (by omega) hS.2⟩, ?_⟩
      rw [hblock b (by omega) hS.2]
      exact hw b hb (by rcases hS.1 with h1 | h1 <;> omega)
    · have e : j = xs.length := by simp at hj; omega
      subst e
      have hjk : ¬ xs.length < ks.length := by rw [h.len]; omega
      have e2 : (ks ++ [l])[xs.length] = l := by rw [List.getElem_append_right (by omega)]; simp
      rw [e2, List.getElem_append_right (Nat.le_refl _)]
      simp only [Nat.sub_self, List.getElem_cons_zero]
      refine hx.keep fun b hb hS => ?_
      have hne : rv.ownBlock ≠ some b := fun e => by
        have h1 := hm' b e
        omega
      exact ⟨⟨.inr (by omega), hne' b hb hne⟩, hblock b hb hne⟩

/-- While levels are read. -/
def LevsRd (w : World) (sc : Nat) (s : ByteArray) (ls : List LvB) (k pe : Nat) (rv : Value) (xs : List Value) (W : World) : Prop :=
  Row W 0 w.heap.size (ls.take k) rv xs ∧ (∃ pk, ReadsAll s (ls.drop k) pk pe ∧ pk ≤ s.size ∧ ScAt W sc s pk) ∧ Touched w sc W

/-- What levels leaves: the list that was read; or a throw. -/
def LevsEnd (w : World) (sc : Nat) (s : ByteArray) (ls : List LvB) (p4 : Nat) (fin : Option Nat) (e : Ending) (w' : World) : Prop :=
  (fin = none → ∃ (A : Option Addr) (lc : Nat), e = .returned (.slice A ls.length lc) ∧ LvsIn w' (fun b => w.heap.size ≤ b) A ls ∧ ScAt w' sc s p4 ∧ Touched w sc w') ∧ (∀ a, fin = some a → Threw w sc 1 a e w')

set_option maxRecDepth 100000 in
set_option maxHeartbeats 8000000 in
theorem levels_count (s : ByteArray) (hs : s.size ≤ 20000) (sc p3 p4 : Nat) (hsc : 6 < sc) (hp3 : p3 ≤ s.size) (ls : List LvB) (n : Nat) (hn : ls.length ≤ n) (hn2 : n ≤ 1) (hk : ReadsAll s ls p3 p4) (fin : Option Nat) (hend : (fin = none → ls.length = n) ∧ ∀ a, fin = some a → ls.length < n ∧ Fails s p4 a)
    (w : World) (h : ScAt w sc s p3) (ht : Tabs w) :
    Calls Tryz.prog 40 #[.pointer (some ⟨sc, 0, none⟩), .int .i64 (n : Nat)] w fun e w' => LevsEnd w sc s ls p4 fin e w' := by
  have hlt := h.lt
  have hfew := ReadsAll.few hp3 hk
  have HTb := hide ht
  have HEn := hide hend
  have HSt : Hid (LevsRd w sc s ls 0 p4 (.slice none 0 0) [] w) := ⟨by simpa using Row.start _ _ _, ⟨p3, by simpa using hk, hp3, h⟩, Touched.refl _ _⟩
  obtain ⟨i0, hi, hz0, hz1, hz2⟩ := info_parts Tryz.info68
  clear h ht hk hend
  go_enter Tryz.func40, Tryz.ntmps40
  go_wp2_with fail
  go_loopg [5] (ls.length) (fun g v wr => ∃ (k : Nat) (rv : Value) (xs : List Value), k + g = ls.length ∧ v = rv ∧ Hid (LevsRd w sc s ls k p4 rv xs wr))
  case atStart => exact ⟨0, _, _, by omega, rfl, HSt.out⟩
  case round =>
    clear HSt
    obtain ⟨k, rv, xs, hkg, rfl, HM⟩ := hrel
    obtain ⟨hRow, ⟨pk, hra, hpk, hSk⟩, hOld⟩ := HM.out
    have hxk : xs.length = k := by rw [hRow.len]; simp; omega
    have hslt := hSk.lt
    obtain ⟨ao, nn, cc, rfl⟩ : ∃ ao nn cc, u5 = .slice ao nn cc := by
      rcases hRow.own.2 with ⟨e, _⟩ | ⟨g, cap, cur, e, _⟩
      · exact ⟨_, _, _, e⟩
      · exact ⟨_, _, _, e⟩
    have hnn : nn = k := by
      rcases hRow.own.2 with ⟨e, h0⟩ | ⟨g, cap, cur, e, _⟩
      · injection e with _ e _; omega
      · injection e with _ e _; omega
    subst hnn
    have htw := HTb.out.touched hOld hsc
    by_cases hkl : nn < ls.length
    · rw [List.drop_eq_getElem_cons hkl] at hra
      obtain ⟨pn, hr1, hr2⟩ := hra
      have hpn := hr1.le
      have hkn : nn < n := by omega
      have HRow := hide hRow
      have HR2 := hide hr2
      have HO := hide hOld
      have hzo := hOld.size
      have HW1 : Hid (Below wr.heap.size wr wr) := Below.refl _ _
      have hSk1 := hSk
      have htw1 := htw
      have KL := hide (slevel_calls s hs sc hsc _ ls[nn] pk pn wr (Nat.le_refl _) hr1 hpk hSk1 htw1)
      clear hRow hr1 hr2 hOld HM hSk1 htw1 htw hSk
      go_wp2_with (go_at_call 54; refine KL.out.mono ?_)
      rintro e w5 ⟨k1, nm1, A3, n1, cap3, rfl, hin5, hS5, hT5⟩
      have hT6 : Touched wr sc w5 := (Touched.of_below HW1.out).trans hT5
      have hz5 := hT6.size
      have HO5 := hide ((HRow.out.own.kept (row := some sc) hT6 (.inr (fun e => by have := (HRow.out.own.lt sc e).1; omega))).alloc (.cells #[.int .i64 k1, .string nm1, .slice A3 n1 cap3] 68))
      have HT5 := hide hT6
      have HS5 := hide hS5
      have HI5 := hide hin5
      clear hT5 hT6 hin5 hS5
      go_wp2_with (at_builtin; refine wpList_append_placed _ rfl _ _ 27 rfl w.heap.size 68 i0 _ 3 48 Tryz.underlying27 hi hz0 hz1 hz2 rfl (by decide) (.slice ao nn cc) xs.length (flat xs) rfl HO5.out ⟨w5.heap.size, 0, none⟩ 1 1 [.int .i64 k1, .string nm1, .slice A3 n1 cap3] rfl rfl (three_new _ _ _ _ _) (by intro u hu; simp at hu; rcases hu with rfl | rfl | rfl <;> rfl) (by decide) (by unfold maxLen; omega) (by omega) (by simp; omega) ?_)
      intro v' w6 hown6 hgr6 hpl6
      obtain ⟨g, cap', rfl, hgb⟩ := shape_row hown6 (by omega)
      have hT7 : Touched w sc w6 := by
        refine ⟨hgr6.os.trans (HT5.out.os.trans HO.out.os), hgr6.tape.trans (HT5.out.tape.trans HO.out.tape), hgr6.output.trans (HT5.out.output.trans HO.out.output), by have := hgr6.size; simp at this; omega, fun b hb hne => ?_⟩
        rw [hgr6.block b (by simp; omega) (fun e => by have := (HRow.out.own.lt _ e.symm).1; omega), Below.heap_alloc _ _ _ (by omega), HT5.out.block b (by omega) hne]
        exact HO.out.block b hb hne
      have hNx : LevsRd w sc s ls (nn + 1) p4 (.slice (some ⟨g, 0, none⟩) (nn + 1) cap') (xs ++ [.agg #[.int .i64 k1, .string nm1, .slice A3 n1 cap3]]) w6 := by
        refine ⟨?_, ⟨pn, HR2.out, hpn, ?_⟩, hT7⟩
        · have e1 : ls.take (nn + 1) = ls.take nn ++ [ls[nn]] := by rw [List.take_add_one, List.getElem?_eq_getElem hkl]; rfl
          rw [e1]
          exact HRow.out.nextv hzo (fun g e => (HRow.out.own.lt g e).2) (HT5.out.size) (fun b hb h => HT5.out.at hb (by omega)) (HI5.out.keep fun b hb h => ⟨Nat.le_trans HW1.out.size h, rfl⟩) (by rw [hxk]; exact hown6) hgr6 (by simpa using hpl6)
        · exact (HS5.out.alloc _).of_block (hgr6.block sc (by simp; omega) (fun e => by have := (HRow.out.own.lt _ e.symm).1; omega))
      have HNx := hide hNx
      clear hNx hT7 hown6 hgr6 hpl6
      go_wp2_with fail
      go_roundg (ls.length - (nn + 1))
      case measure => omega
      case rel => exact ⟨nn + 1, _, _, by omega, rfl, HNx.out⟩
    · have hkl' : nn = ls.length := by omega
      subst hkl'
      have hpe : p4 = pk := by simpa [ReadsAll] using hra
      subst hpe
      cases fin with
      | none =>
        have hkn : ¬ ls.length < n := by have := HEn.out.1 rfl; omega
        have hn1 : ((n : Int) == -1) = false := by simp <;> omega
        have HRow := hide hRow
        have HO := hide hOld
        have HW1 : Hid (Below wr.heap.size wr wr) := Below.refl _ _
        have HS9 := hide hSk
        clear hSk
        clear hRow hOld HM htw hra
        go_wp2_with fail
        go_ret
        refine ⟨fun _ => ?_, fun a e => by cases e⟩
        obtain ⟨A, c, e, hL⟩ := HRow.out.list
        rw [List.take_length] at e hL
        exact ⟨_, _, rfl, by
          injection e with e1 e2 e3
          rw [e1]
          exact hL.keep fun b hb h => ⟨h, HW1.out.block b hb⟩, HS9.out, HO.out.trans (Touched.of_below HW1.out)⟩
      | some a =>
        have hkn : ls.length < n := (HEn.out.2 a rfl).1
        have HO := hide hOld
        have HW1 : Hid (Below wr.heap.size wr wr) := Below.refl _ _
        have hSk1 := hSk
        have htw1 := htw
        have KF := hide (slevel_fails s hs sc hsc (HEn.out.2 a rfl).2 wr hpk hSk1 htw1)
        clear hRow hOld HM htw hra hSk1 htw1 hSk
        go_wp2_with (go_at_call 54; refine KF.out.mono ?_)
        intro e w5 h5
        have H5 := hide (h5.from (HO.out.trans (Touched.of_below HW1.out)))
        obtain ⟨fb, rfl, -⟩ := h5
        go_wp2_with fail
        refine ⟨rfl, ?_⟩
        show LevsEnd _ _ _ _ _ _ _ _
        unfold LevsEnd
        exact ⟨fun e => (by cases e), fun a' e => (by cases e; exact H5.out)⟩

set_option maxRecDepth 100000 in
set_option maxHeartbeats 8000000 in
theorem levels_free (s : ByteArray) (hs : s.size ≤ 20000) (sc p3 p4 : Nat) (hsc : 6 < sc) (hp3 : p3 ≤ s.size) (ls : List LvB)  (hk : ReadsAll s ls p3 p4) (fin : Option Nat) (hend : (fin = none → (tok s p4).t = ⟨#[41]⟩) ∧ ∀ a, fin = some a → (tok s p4).t ≠ ⟨#[41]⟩ ∧ Fails s p4 a)
    (w : World) (h : ScAt w sc s p3) (ht : Tabs w) :
    Calls Tryz.prog 40 #[.pointer (some ⟨sc, 0, none⟩), .int .i64 (-1)] w fun e w' => LevsEnd w sc s ls p4 fin e w' := by
  have hlt := h.lt
  have hfew := ReadsAll.few hp3 hk
  have HTb := hide ht
  have HEn := hide hend
  have HSt : Hid (LevsRd w sc s ls 0 p4 (.slice none 0 0) [] w) := ⟨by simpa using Row.start _ _ _, ⟨p3, by simpa using hk, hp3, h⟩, Touched.refl _ _⟩
  obtain ⟨i0, hi, hz0, hz1, hz2⟩ := info_parts Tryz.info68
  clear h ht hk hend
  go_enter Tryz.func40, Tryz.ntmps40
  go_wp2_with fail
  go_loopg [5] (ls.length) (fun g v wr => ∃ (k : Nat) (rv : Value) (xs : List Value), k + g = ls.length ∧ v = rv ∧ Hid (LevsRd w sc s ls k p4 rv xs wr))
  case atStart => exact ⟨0, _, _, by omega, rfl, HSt.out⟩
  case round =>
    clear HSt
    obtain ⟨k, rv, xs, hkg, rfl, HM⟩ := hrel
    obtain ⟨hRow, ⟨pk, hra, hpk, hSk⟩, hOld⟩ := HM.out
    have hxk : xs.length = k := by rw [hRow.len]; simp; omega
    have hslt := hSk.lt
    obtain ⟨ao, nn, cc, rfl⟩ : ∃ ao nn cc, u5 = .slice ao nn cc := by
      rcases hRow.own.2 with ⟨e, _⟩ | ⟨g, cap, cur, e, _⟩
      · exact ⟨_, _, _, e⟩
      · exact ⟨_, _, _, e⟩
    have hnn : nn = k := by
      rcases hRow.own.2 with ⟨e, h0⟩ | ⟨g, cap, cur, e, _⟩
      · injection e with _ e _; omega
      · injection e with _ e _; omega
    subst hnn
    have htw := HTb.out.touched hOld hsc
    by_cases hkl : nn < ls.length
    · rw [List.drop_eq_getElem_cons hkl] at hra
      obtain ⟨pn, hr1, hr2⟩ := hra
      have hpn := hr1.le
      have hkn : decide ((nn : Int) < -1) = false := by simp <;> omega
      have htk := close_no_level hr1
      have HRow := hide hRow
      have HR2 := hide hr2
      have HO := hide hOld
      have hzo := hOld.size
      have KB := hide (before_calls sc s pk wr hs hpk hSk htw)
      rw [show decide ((tok s pk).t = ⟨#[41]⟩) = false from by simp [htk]] at KB
      clear hRow HM hOld
      go_wp2_with (go_at_call 53; refine KB.out.mono ?_)
      first | (intro e W1 he hb1; subst he) | (rintro e W1 ⟨rfl, hb1⟩)
      have HW1 := hide hb1
      have hSk1 := hSk.below hb1
      have htw1 := htw.below hb1 htw.lt
      clear hb1
      have KL := hide (slevel_calls s hs sc hsc _ ls[nn] pk pn W1 (Nat.le_refl _) hr1 hpk hSk1 htw1)
      clear hr1 hr2 hSk1 htw1 htw hSk
      go_wp2_with (go_at_call 54; refine KL.out.mono ?_)
      rintro e w5 ⟨k1, nm1, A3, n1, cap3, rfl, hin5, hS5, hT5⟩
      have hT6 : Touched wr sc w5 := (Touched.of_below HW1.out).trans hT5
      have hz5 := hT6.size
      have HO5 := hide ((HRow.out.own.kept (row := some sc) hT6 (.inr (fun e => by have := (HRow.out.own.lt sc e).1; omega))).alloc (.cells #[.int .i64 k1, .string nm1, .slice A3 n1 cap3] 68))
      have HT5 := hide hT6
      have HS5 := hide hS5
      have HI5 := hide hin5
      clear hT5 hT6 hin5 hS5
      go_wp2_with (at_builtin; refine wpList_append_placed _ rfl _ _ 27 rfl w.heap.size 68 i0 _ 3 48 Tryz.underlying27 hi hz0 hz1 hz2 rfl (by decide) (.slice ao nn cc) xs.length (flat xs) rfl HO5.out ⟨w5.heap.size, 0, none⟩ 1 1 [.int .i64 k1, .string nm1, .slice A3 n1 cap3] rfl rfl (three_new _ _ _ _ _) (by intro u hu; simp at hu; rcases hu with rfl | rfl | rfl <;> rfl) (by decide) (by unfold maxLen; omega) (by omega) (by simp; omega) ?_)
      intro v' w6 hown6 hgr6 hpl6
      obtain ⟨g, cap', rfl, hgb⟩ := shape_row hown6 (by omega)
      have hT7 : Touched w sc w6 := by
        refine ⟨hgr6.os.trans (HT5.out.os.trans HO.out.os), hgr6.tape.trans (HT5.out.tape.trans HO.out.tape), hgr6.output.trans (HT5.out.output.trans HO.out.output), by have := hgr6.size; simp at this; omega, fun b hb hne => ?_⟩
        rw [hgr6.block b (by simp; omega) (fun e => by have := (HRow.out.own.lt _ e.symm).1; omega), Below.heap_alloc _ _ _ (by omega), HT5.out.block b (by omega) hne]
        exact HO.out.block b hb hne
      have hNx : LevsRd w sc s ls (nn + 1) p4 (.slice (some ⟨g, 0, none⟩) (nn + 1) cap') (xs ++ [.agg #[.int .i64 k1, .string nm1, .slice A3 n1 cap3]]) w6 := by
        refine ⟨?_, ⟨pn, HR2.out, hpn, ?_⟩, hT7⟩
        · have e1 : ls.take (nn + 1) = ls.take nn ++ [ls[nn]] := by rw [List.take_add_one, List.getElem?_eq_getElem hkl]; rfl
          rw [e1]
          exact HRow.out.nextv hzo (fun g e => (HRow.out.own.lt g e).2) (HT5.out.size) (fun b hb h => HT5.out.at hb (by omega)) (HI5.out.keep fun b hb h => ⟨Nat.le_trans HW1.out.size h, rfl⟩) (by rw [hxk]; exact hown6) hgr6 (by simpa using hpl6)
        · exact (HS5.out.alloc _).of_block (hgr6.block sc (by simp; omega) (fun e => by have := (HRow.out.own.lt _ e.symm).1; omega))
      have HNx := hide hNx
      clear hNx hT7 hown6 hgr6 hpl6
      go_wp2_with fail
      go_roundg (ls.length - (nn + 1))
      case measure => omega
      case rel => exact ⟨nn + 1, _, _, by omega, rfl, HNx.out⟩
    · have hkl' : nn = ls.length := by omega
      subst hkl'
      have hpe : p4 = pk := by simpa [ReadsAll] using hra
      subst hpe
      cases fin with
      | none =>
        have hkn : decide ((ls.length : Int) < -1) = false := by simp <;> omega
        have htk := HEn.out.1 rfl
        have HRow := hide hRow
        have HO := hide hOld
        have KB := hide (before_calls sc s p4 wr hs hpk hSk htw)
        rw [show decide ((tok s p4).t = ⟨#[41]⟩) = true from by simp [htk]] at KB
        have HSk := hide hSk
        clear hRow hOld HM htw hra hSk
        go_wp2_with (go_at_call 53; refine KB.out.mono ?_)
        first | (intro e W1 he hb1; subst he) | (rintro e W1 ⟨rfl, hb1⟩)
        have HW1 := hide hb1
        have HS9 := hide (HSk.out.below hb1)
        clear hb1
        go_wp2_with fail
        go_ret
        refine ⟨fun _ => ?_, fun a e => by cases e⟩
        obtain ⟨A, c, e, hL⟩ := HRow.out.list
        rw [List.take_length] at e hL
        exact ⟨_, _, rfl, by
          injection e with e1 e2 e3
          rw [e1]
          exact hL.keep fun b hb h => ⟨h, HW1.out.block b hb⟩, HS9.out, HO.out.trans (Touched.of_below HW1.out)⟩
      | some a =>
        have hkn : decide ((ls.length : Int) < -1) = false := by simp <;> omega
        have htk := (HEn.out.2 a rfl).1
        have HO := hide hOld
        have KB := hide (before_calls sc s p4 wr hs hpk hSk htw)
        rw [show decide ((tok s p4).t = ⟨#[41]⟩) = false from by simp [htk]] at KB
        clear hRow HM hOld
        go_wp2_with (go_at_call 53; refine KB.out.mono ?_)
        first | (intro e W1 he hb1; subst he) | (rintro e W1 ⟨rfl, hb1⟩)
        have HW1 := hide hb1
        have hSk1 := hSk.below hb1
        have htw1 := htw.below hb1 htw.lt
        clear hb1
        have KF := hide (slevel_fails s hs sc hsc (HEn.out.2 a rfl).2 W1 hpk hSk1 htw1)
        clear htw hra hSk1 htw1 hSk
        go_wp2_with (go_at_call 54; refine KF.out.mono ?_)
        intro e w5 h5
        have H5 := hide (h5.from (HO.out.trans (Touched.of_below HW1.out)))
        obtain ⟨fb, rfl, -⟩ := h5
        go_wp2_with fail
        refine ⟨rfl, ?_⟩
        show LevsEnd _ _ _ _ _ _ _ _
        unfold LevsEnd
        exact ⟨fun e => (by cases e), fun a' e => (by cases e; exact H5.out)⟩

end Go.Proofs.YtahcgpnjlmpkpaaGreatDoor

namespace Go.Proofs.YtahcgpnjlmpkpaaGreatDoor
open Go.RowKit

/-- A term was read: it lies in new blocks; the scanner stands behind it. -/
def TermOf (w : World) (sc : Nat) (s : ByteArray) (d : Nat) (t : Tm) (p' : Nat) (e : Ending) (w' : World) : Prop :=
  ∃ (k n : Int) (nm : ByteArray) (A : Option Addr) (la lc : Nat) (A' : Option Addr) (ta tc : Nat), e = .returned (.agg #[.int .i64 k, .int .i64 n, .string nm, .slice A la lc, .slice A' ta tc]) ∧ InTm w' (fun b => w.heap.size ≤ b) d t (.agg #[.int .i64 k, .int .i64 n, .string nm, .slice A la lc, .slice A' ta tc]) ∧ ScAt w' sc s p' ∧ Touched w sc w'

/-- A call that reads a term, as one step of a region that draws its order. -/
theorem step_sterm {ops : Array Oper} {o : Oper} {a : Act} {w : World} {K : Act → World → Prop} {Q : Exit → Act → World → Prop} {E : Prop} {args : Array Value} {f : FuncId} {sc d p' : Nat} {s : ByteArray} {t : Tm}
    (hg : o.guard = none) (hrun : (execOp a.eval o).run Tryz.prog w = .ok (.enter f args) w) (hc : Calls Tryz.prog f args w fun e w' => TermOf w sc s d t p' e w')
    (hK : ∀ (k n : Int) (nm : ByteArray) (A : Option Addr) (la lc : Nat) (A' : Option Addr) (ta tc : Nat) (w' : World), InTm w' (fun b => w.heap.size ≤ b) d t (.agg #[.int .i64 k, .int .i64 n, .string nm, .slice A la lc, .slice A' ta tc]) → ScAt w' sc s p' → Touched w sc w' → K (a.put o.dst (.agg #[.int .i64 k, .int .i64 n, .string nm, .slice A la lc, .slice A' ta tc])) w') :
    if Region.wanted o (yielded ops a.tmps) = true then Oper.wp Tryz.prog o a w K Q else E := by
  have hw : Region.wanted o (yielded ops a.tmps) = true := by simp [Region.wanted, hg]
  rw [if_pos hw]
  unfold Oper.wp
  rw [hrun]
  refine hc.mono ?_
  rintro e w' ⟨k, n, nm, A, la, lc, A', ta, tc, rfl, h1, h2, h3⟩
  exact hK k n nm A la lc A' ta tc w' h1 h2 h3

/-- A call that throws, where a term was asked for. -/
theorem step_throwT {ops : Array Oper} {o : Oper} {a : Act} {w : World} {K : Act → World → Prop} {Q : Exit → Act → World → Prop} {E : Prop} {args : Array Value} {f : FuncId} {sc a0 : Nat}
    (hg : o.guard = none) (hrun : (execOp a.eval o).run Tryz.prog w = .ok (.enter f args) w) (hc : Calls Tryz.prog f args w fun e w' => Threw w sc 1 a0 e w')
    (hQ : ∀ (fb : Nat) (w' : World), Threw w sc 1 a0 (.panicked [{ v := .iface 71 (.pointer (some ⟨fb, 0, none⟩)), recovered := false }]) w' → Q (.panic [{ v := .iface 71 (.pointer (some ⟨fb, 0, none⟩)), recovered := false }]) a w')
    (hK : ∀ (k n : Int) (nm : ByteArray) (A : Option Addr) (la lc : Nat) (A' : Option Addr) (ta tc : Nat) (w' : World), Hid False → K (a.put o.dst (.agg #[.int .i64 k, .int .i64 n, .string nm, .slice A la lc, .slice A' ta tc])) w') :
    if Region.wanted o (yielded ops a.tmps) = true then Oper.wp Tryz.prog o a w K Q else E := by
  have hw : Region.wanted o (yielded ops a.tmps) = true := by simp [Region.wanted, hg]
  rw [if_pos hw]
  unfold Oper.wp
  rw [hrun]
  refine hc.mono ?_
  intro e w' h
  obtain ⟨fb, rfl, h1⟩ := h
  have _ := hK
  exact hQ fb w' ⟨fb, rfl, h1⟩

/-- How many levels a shape asks for. -/
def lvn (kd : Nat) : Int := if kd = 1 then 1 else if kd = 2 then -1 else 0

/-- The name and the levels have come. (c: the term's variable.) -/
def PDone (w : World) (sc : Nat) (s : ByteArray) (c kd p4 : Nat) (nm : ByteArray) (ls : List LvB) (wx : World) : Prop :=
  ∃ (A : Option Addr) (lc : Nat), TVar 30 wx c kd 0 nm (.slice A ls.length lc) (.slice none 0 0) ∧ wx.cell? ⟨c + 1, 3, none⟩ = some (.int .i64 (tparts kd : Nat)) ∧ ScAt wx sc s p4 ∧ Touched (w.alloc ztm) sc wx ∧ LvsIn wx (fun b => c + 2 ≤ b ∧ b < wx.heap.size) A ls ∧ c + 2 ≤ wx.heap.size

/-- While the parts of a term are read. -/
structure TReading (w wc : World) (sc c : Nat) (s : ByteArray) (kd d : Nat) (nm : ByteArray) (rl : Value) (ts : List Tm) (k pe : Nat) (rv : Value) (xs : List Value) (W : World) : Prop where
  var : TVar 30 W c kd 0 nm rl rv
  row : TRow W 30 d wc.heap.size (ts.take k) rv xs
  scan : ∃ pk, Seq (RT s d) (ts.drop k) pk pe ∧ pk ≤ s.size ∧ ScAt W sc s pk
  old : Touched (w.alloc ztm) sc W
  size : wc.heap.size ≤ W.heap.size
  keep : ∀ b, c + 2 ≤ b → b < wc.heap.size → W.heap[b]? = wc.heap[b]?

theorem TReading.next {w wc W w5 w6 : World} {sc c kd d k pe pn g cap' la lc ta tc : Nat} {s nm : ByteArray} {rl rv : Value} {ts : List Tm} {xs : List Value} {k1 m1 : Int} {nm1 : ByteArray} {A A' : Option Addr} (h : TReading w wc sc c s kd d nm rl ts k pe rv xs W) (hkl : k < ts.length) (hsc : sc < w.heap.size) (hc : w.heap.size + 1 ≤ c) (hcn : c + 2 ≤ wc.heap.size)
    (hr2 : Seq (RT s d) (ts.drop (k + 1)) pn pe) (hpn : pn ≤ s.size) (hT5 : Touched W sc w5) (hS5 : ScAt w5 sc s pn) (hin : InTm w5 (fun b => W.heap.size ≤ b) d ts[k] (.agg #[.int .i64 k1, .int .i64 m1, .string nm1, .slice A la lc, .slice A' ta tc]))
    (hown : w6.ownsRow wc.heap.size 30 5 (.slice (some ⟨g, 0, none⟩) (xs.length + 1) cap') (xs.length + 1) (flat xs ++ [.int .i64 k1, .int .i64 m1, .string nm1, .slice A la lc, .slice A' ta tc]))
    (hgr : (w5.alloc (.cells #[.int .i64 k1, .int .i64 m1, .string nm1, .slice A la lc, .slice A' ta tc] 30)).grownBy w6 rv.ownBlock)
    (hpl : (Value.slice (some ⟨g, 0, none⟩) (xs.length + 1) cap').ownBlock = rv.ownBlock ∨ (Value.slice (some ⟨g, 0, none⟩) (xs.length + 1) cap').ownBlock = some (w5.alloc (.cells #[.int .i64 k1, .int .i64 m1, .string nm1, .slice A la lc, .slice A' ta tc] 30)).heap.size) :
    TReading w wc sc c s kd d nm rl ts (k + 1) pe (.slice (some ⟨g, 0, none⟩) (xs.length + 1) cap') (xs ++ [.agg #[.int .i64 k1, .int .i64 m1, .string nm1, .slice A la lc, .slice A' ta tc]]) (w6.setCell ⟨c, 4, none⟩ (.slice (some ⟨g, 0, none⟩) (xs.length + 1) cap')) := by
  have hz5 := hT5.size
  have hz6 := hgr.size
  have hzo := h.old.size
  have hzs := h.size
  simp at hz6 hzo
  have hnob : ∀ b, b < wc.heap.size → rv.ownBlock ≠ some b := fun b hb e => by have := (h.row.own.lt b e).1; omega
  have hblk : ∀ b, b < wc.heap.size → b ≠ sc → w6.heap[b]? = W.heap[b]? := fun b hb hne => by
    rw [hgr.block b (by simp; omega) (fun e => hnob b hb e.symm), Below.heap_alloc _ _ _ (by omega)]
    exact hT5.at (by omega) hne
  refine ⟨?_, ?_, ⟨pn, hr2, hpn, ?_⟩, ?_, ?_, ?_⟩
  · exact (h.var.of_block (hblk c (by omega) (by omega))).setA _
  · rw [List.take_succ_eq_append_getElem hkl]
    exact h.row.next (q := 4) (c := c) (m := W.heap.size) (by omega) (by omega) (fun g e => (h.row.own.lt g e).2) hz5 (fun b hb hS => hT5.at hb (by omega)) hin hown hgr hpl _
  · refine hS5.of_block ?_
    rw [Below.heap_setCell _ _ _ _ (by show sc ≠ c; omega), hgr.block sc (by simp; omega) (fun e => hnob sc (by omega) e.symm), Below.heap_alloc _ _ _ (by omega)]
  · refine ⟨hgr.os.trans (hT5.os.trans h.old.os), hgr.tape.trans (hT5.tape.trans h.old.tape), hgr.output.trans (hT5.output.trans h.old.output), by simp [World.setCell]; omega, fun b hb hne => ?_⟩
    have hb' : b < w.heap.size + 1 := by simpa using hb
    rw [Below.heap_setCell _ _ _ _ (by show b ≠ c; omega), hblk b (by omega) (by simpa using hne)]
    exact h.old.block b hb hne
  · simp [World.setCell]; omega
  · intro b hb1 hb2
    rw [Below.heap_setCell _ _ _ _ (by show b ≠ c; omega), hblk b hb2 (by omega)]
    exact h.keep b hb1 hb2

/-- The result's block is filled; the scanner stands as it stood. -/
theorem sfilled5 {w W : World} {sc p : Nat} {s : ByteArray} (hsc : sc < w.heap.size) (hS : ScAt W sc s p) (hT : Touched w sc W) (u0 u1 u2 u3 u4 : Value) :
    ScAt (((((W.setCell ⟨w.heap.size, 0, none⟩ u0).setCell ⟨w.heap.size, 1, none⟩ u1).setCell ⟨w.heap.size, 2, none⟩ u2).setCell ⟨w.heap.size, 3, none⟩ u3).setCell ⟨w.heap.size, 4, none⟩ u4) sc s p ∧
    Touched w sc (((((W.setCell ⟨w.heap.size, 0, none⟩ u0).setCell ⟨w.heap.size, 1, none⟩ u1).setCell ⟨w.heap.size, 2, none⟩ u2).setCell ⟨w.heap.size, 3, none⟩ u3).setCell ⟨w.heap.size, 4, none⟩ u4) := by
  constructor
  · refine hS.of_block ?_
    rw [Below.heap_setCell _ _ _ _ (by show sc ≠ w.heap.size; omega), Below.heap_setCell _ _ _ _ (by show sc ≠ w.heap.size; omega), Below.heap_setCell _ _ _ _ (by show sc ≠ w.heap.size; omega), Below.heap_setCell _ _ _ _ (by show sc ≠ w.heap.size; omega), Below.heap_setCell _ _ _ _ (by show sc ≠ w.heap.size; omega)]
  · exact ((((hT.setNew (a := ⟨w.heap.size, 0, none⟩) (Nat.le_refl _) _).setNew (a := ⟨w.heap.size, 1, none⟩) (Nat.le_refl _) _).setNew (a := ⟨w.heap.size, 2, none⟩) (Nat.le_refl _) _).setNew (a := ⟨w.heap.size, 3, none⟩) (Nat.le_refl _) _).setNew (a := ⟨w.heap.size, 4, none⟩) (Nat.le_refl _) _

/-- A term's value, stored into the result's block. -/
theorem sterm_stored {w W : World} {sc d p : Nat} {s nm : ByteArray} {t : Tm} {k n : Int} {A A' : Option Addr} {la lc ta tc : Nat} (hsc : sc < w.heap.size) (hS : ScAt W sc s p) (hT : Touched w sc W) (hin : InTm W (fun b => w.heap.size + 1 ≤ b) d t (.agg #[.int .i64 k, .int .i64 n, .string nm, .slice A la lc, .slice A' ta tc])) :
    TermOf w sc s d t p (.returned (.agg #[.int .i64 k, .int .i64 n, .string nm, .slice A la lc, .slice A' ta tc])) (((((W.setCell ⟨w.heap.size, 0, none⟩ (.int .i64 k)).setCell ⟨w.heap.size, 1, none⟩ (.int .i64 n)).setCell ⟨w.heap.size, 2, none⟩ (.string nm)).setCell ⟨w.heap.size, 3, none⟩ (.slice A la lc)).setCell ⟨w.heap.size, 4, none⟩ (.slice A' ta tc)) := by
  have hf := sfilled5 hsc hS hT (.int .i64 k) (.int .i64 n) (.string nm) (.slice A la lc) (.slice A' ta tc)
  refine ⟨k, n, nm, A, la, lc, A', ta, tc, rfl, hin.keep fun b hb hb1 => ⟨by omega, ?_⟩, hf.1, hf.2⟩
  rw [Below.heap_setCell _ _ _ _ (by show b ≠ w.heap.size; omega), Below.heap_setCell _ _ _ _ (by show b ≠ w.heap.size; omega), Below.heap_setCell _ _ _ _ (by show b ≠ w.heap.size; omega), Below.heap_setCell _ _ _ _ (by show b ≠ w.heap.size; omega), Below.heap_setCell _ _ _ _ (by show b ≠ w.heap.size; omega)]

/-- The whole, out of its variable and its row. -/
theorem TReading.made {w wc W w7 : World} {sc c kd d pe lc ta tc : Nat} {s nm : ByteArray} {A A' : Option Addr} {ls : List LvB} {ts : List Tm} {xs : List Value} (h : TReading w wc sc c s kd d nm (.slice A ls.length lc) ts ts.length pe (.slice A' ta tc) xs W) (hsc : sc < w.heap.size) (hc : w.heap.size + 1 ≤ c) (hcn : c + 2 ≤ wc.heap.size) (hl : LvsIn wc (fun b => c + 2 ≤ b ∧ b < wc.heap.size) A ls) (hT : Touched W sc w7) :
    InTm w7 (fun b => w.heap.size + 1 ≤ b) (d + 1) (.node kd 0 nm ls ts) (.agg #[.int .i64 kd, .int .i64 0, .string nm, .slice A ls.length lc, .slice A' ta tc]) := by
  have hRow := h.row
  rw [List.take_length] at hRow
  obtain ⟨A1, c1, e, hparts⟩ := hRow.made
  cases e
  have hzs := h.size
  refine ⟨A, lc, A', tc, rfl, ?_, fun i hi => ?_⟩
  · refine hl.keep fun b hb hb2 => ⟨by show w.heap.size + 1 ≤ b; omega, ?_⟩
    rw [hT.at (by omega) (by omega)]
    exact h.keep b hb2.1 hb2.2
  · obtain ⟨b, x, hA, hb, hF, hI⟩ := hparts i hi
    exact ⟨b, x, hA, by show w.heap.size + 1 ≤ b; omega, hF.of_block (hT.at hF.lt (by omega)), hI.keep fun b hb hb2 => ⟨by show w.heap.size + 1 ≤ b; omega, hT.at hb (by omega)⟩⟩

end Go.Proofs.YtahcgpnjlmpkpaaGreatDoor

namespace Go.Proofs.YtahcgpnjlmpkpaaGreatDoor
open Go.RowKit

/-- The shape has come. -/
def PShape (w : World) (sc : Nat) (s : ByteArray) (c kd p2 : Nat) (wx : World) : Prop :=
  TVar 30 wx c kd 0 ⟨#[]⟩ (.slice none 0 0) (.slice none 0 0) ∧ wx.cell? ⟨c + 1, 1, none⟩ = some (.bool (decide (kd = 2))) ∧ wx.cell? ⟨c + 1, 2, none⟩ = some (.int .i64 (lvn kd)) ∧ wx.cell? ⟨c + 1, 3, none⟩ = some (.int .i64 (tparts kd : Nat)) ∧ ScAt wx sc s p2 ∧ Touched (w.alloc ztm) sc wx ∧ wx.heap.size = c + 2

/-- What a bracket's inside comes to: a term, or a throw. -/
def BrkEnd (w : World) (sc : Nat) (s : ByteArray) (d : Nat) (t : Tm) (p' : Nat) (fin : Option Nat) (e : Ending) (w' : World) : Prop := (fin = none → TermOf w sc s d t p' e w') ∧ (∀ a, fin = some a → Threw w sc 1 a e w')

theorem BrkEnd.bad {w w' : World} {sc d p' a : Nat} {s : ByteArray} {t : Tm} {e : Ending} (h : Threw w sc 1 a e w') : BrkEnd w sc s d t p' (some a) e w' := ⟨fun e => (by cases e), fun a' e => (by cases e; exact h)⟩
theorem BrkEnd.good {w w' : World} {sc d p' : Nat} {s : ByteArray} {t : Tm} {e : Ending} (h : TermOf w sc s d t p' e w') : BrkEnd w sc s d t p' none e w' := ⟨fun _ => h, fun a' e => (by cases e)⟩

theorem Seq.le {s : ByteArray} {d : Nat} : ∀ {ts : List Tm} {p p' : Nat}, Seq (RT s d) ts p p' → p ≤ s.size → p' ≤ s.size
  | [], _, _, h, hp => by rw [show _ = _ from h]; exact hp
  | _ :: _, _, _, ⟨_, h1, h2⟩, _ => Seq.le h2 h1.le

/-- A shape's rows of the table. -/
theorem TTab.rows {w : World} (h : TTab w) (kd : Nat) (h1 : 1 ≤ kd) (h2 : kd ≤ 6) : ∃ q, w.cell? ⟨1, kd * 4, none⟩ = some (.string q) ∧ w.cell? ⟨1, kd * 4 + 1, none⟩ = some (.bool (decide (kd = 2))) ∧ w.cell? ⟨1, kd * 4 + 2, none⟩ = some (.int .i64 (lvn kd)) ∧ w.cell? ⟨1, kd * 4 + 3, none⟩ = some (.int .i64 (tparts kd : Nat)) := by
  have hk : kd = 1 ∨ kd = 2 ∨ kd = 3 ∨ kd = 4 ∨ kd = 5 ∨ kd = 6 := by omega
  rcases hk with rfl | rfl | rfl | rfl | rfl | rfl
  · exact ⟨_, h.c 4 _ rfl, h.c 5 _ rfl, h.c 6 _ rfl, h.c 7 _ rfl⟩
  · exact ⟨_, h.c 8 _ rfl, h.c 9 _ rfl, h.c 10 _ rfl, h.c 11 _ rfl⟩
  · exact ⟨_, h.c 12 _ rfl, h.c 13 _ rfl, h.c 14 _ rfl, h.c 15 _ rfl⟩
  · exact ⟨_, h.c 16 _ rfl, h.c 17 _ rfl, h.c 18 _ rfl, h.c 19 _ rfl⟩
  · exact ⟨_, h.c 20 _ rfl, h.c 21 _ rfl, h.c 22 _ rfl, h.c 23 _ rfl⟩
  · exact ⟨_, h.c 24 _ rfl, h.c 25 _ rfl, h.c 26 _ rfl, h.c 27 _ rfl⟩

/-- The name has come. -/
def PNamed (w : World) (sc : Nat) (s : ByteArray) (c kd p3 : Nat) (nm : ByteArray) (wx : World) : Prop :=
  TVar 30 wx c kd 0 nm (.slice none 0 0) (.slice none 0 0) ∧ wx.cell? ⟨c + 1, 2, none⟩ = some (.int .i64 (lvn kd)) ∧ wx.cell? ⟨c + 1, 3, none⟩ = some (.int .i64 (tparts kd : Nat)) ∧ ScAt wx sc s p3 ∧ Touched (w.alloc ztm) sc wx ∧ c + 2 ≤ wx.heap.size

theorem levels_part (s : ByteArray) (hs : s.size ≤ 20000) (sc p3 p4 kd : Nat) (hsc : 6 < sc) (hp3 : p3 ≤ s.size) (ls : List LvB) (h : LvPart s kd ls p3 p4) (w : World) (hS : ScAt w sc s p3) (ht : Tabs w) :
    Calls Tryz.prog 40 #[.pointer (some ⟨sc, 0, none⟩), .int .i64 (lvn kd)] w fun e w' => LevsEnd w sc s ls p4 none e w' := by
  rcases h with ⟨rfl, l, rfl, hr⟩ | ⟨rfl, hr, htk⟩ | ⟨h1, h2, rfl, rfl⟩
  · exact levels_count s hs sc p3 p4 hsc hp3 [l] 1 (by simp) (by omega) ⟨p4, hr, rfl⟩ none ⟨fun _ => rfl, fun a e => by cases e⟩ w hS ht
  · exact levels_free s hs sc p3 p4 hsc hp3 ls hr none ⟨fun _ => htk, fun a e => by cases e⟩ w hS ht
  · have e : lvn kd = ((0 : Nat) : Int) := by unfold lvn; rw [if_neg h1, if_neg h2]; rfl
    rw [e]
    exact levels_count s hs sc _ _ hsc hp3 [] 0 (by simp) (by omega) rfl none ⟨fun _ => rfl, fun a e => by cases e⟩ w hS ht

theorem levels_open (s : ByteArray) (hs : s.size ≤ 20000) (sc p3 p4 kd a : Nat) (hsc : 6 < sc) (hp3 : p3 ≤ s.size) (ls : List LvB) (h : LvOpen s kd ls p3 p4) (hf : Fails s p4 a) (w : World) (hS : ScAt w sc s p3) (ht : Tabs w) :
    Calls Tryz.prog 40 #[.pointer (some ⟨sc, 0, none⟩), .int .i64 (lvn kd)] w fun e w' => Threw w sc 1 a e w' := by
  rcases h with ⟨rfl, rfl, rfl⟩ | ⟨rfl, hr, htk⟩
  · exact (levels_count s hs sc _ _ hsc hp3 [] 1 (by simp) (by omega) rfl (some a) ⟨fun e => (by cases e), fun a' e => (by cases e; exact ⟨by simp, hf⟩)⟩ w hS ht).mono fun e w' h => h.2 a rfl
  · exact (levels_free s hs sc p3 p4 hsc hp3 ls hr (some a) ⟨fun e => (by cases e), fun a' e => (by cases e; exact ⟨htk, hf⟩)⟩ w hS ht).mono fun e w' h => h.2 a rfl

set_option maxRecDepth 100000 in
set_option maxHeartbeats 16000000 in
theorem tbrack_walk (s : ByteArray) (hs : s.size ≤ 20000) (sc p1 p2 kd d : Nat) (hsc : 6 < sc) (hp1 : p1 ≤ s.size) (q : ByteArray) (hw : WordAt s q p1 p2) (hk : TKind q kd)
    (ihg : ∀ (t : Tm) (p p' : Nat) (W : World), RT s d t p p' → p ≤ s.size → ScAt W sc s p → Tabs2 W → Calls Tryz.prog 10 #[.pointer (some ⟨sc, 0, none⟩)] W fun e w' => TermOf W sc s d t p' e w')
    (ihb : ∀ (p a : Nat) (W : World), FT s d p a → p ≤ s.size → ScAt W sc s p → Tabs2 W → Calls Tryz.prog 10 #[.pointer (some ⟨sc, 0, none⟩)] W fun e w' => Threw W sc 1 a e w')
    (fin : Option Nat) (t : Tm) (p' : Nat)
    (hF : (kd = 2 ∧ isNameB (tok s p2).t = false ∧ fin = some (runTo blankB s p2)) ∨ ∃ nm p3, NamePart s kd nm p2 p3 ∧ ((∃ a ls p4, fin = some a ∧ LvOpen s kd ls p3 p4 ∧ Fails s p4 a) ∨ ∃ ls p4, LvPart s kd ls p3 p4 ∧ ∃ ts p5, Seq (RT s d) ts p4 p5 ∧ ((∃ a, fin = some a ∧ ts.length < tparts kd ∧ FT s d p5 a) ∨ (ts.length = tparts kd ∧ (tok s p5).t ≠ ⟨#[41]⟩ ∧ fin = some (runTo blankB s p5)) ∨ (ts.length = tparts kd ∧ SignAt s 41 p5 p' ∧ fin = none ∧ t = .node kd 0 nm ls ts))))
    (w : World) (h : ScAt w sc s p1) (ht : Tabs2 w) :
    Calls Tryz.prog 19 #[.pointer (some ⟨sc, 0, none⟩)] w fun e w' => BrkEnd w sc s (d + 1) t p' fin e w' := by
  have hlt := h.lt
  have ht0 := ht.below ((Below.refl _ _).alloc (Nat.le_refl _) ztm) ht.lt
  have K1 := hide (tword_calls sc s p1 _ p2 kd _ _ (hw.nexts hs hp1) (h.alloc ztm) ht0 hsc hk)
  have HTb := hide ht0
  have HF := hide hF
  have hp2 := hw.le
  have HG := hide ihg
  have HB := hide ihb
  have hpos := hk.pos
  obtain ⟨i5, hj, hy0, hy1, hy2⟩ := infoParts Tryz.info30'
  clear h ht ht0 hw hk hF ihg ihb
  generalize runTo blankB s p1 = kk at *
  go_enter Tryz.func19, Tryz.ntmps19
  go_wp2_with (go_at_call 37; refine K1.out.mono ?_)
  rintro e w1 ⟨rfl, hS1, hT1⟩
  have hz1 := hT1.size
  simp at hz1
  have hV : TVar 30 (w1.alloc (.cells #[.int .i64 (kd : Nat), .int .i64 0, .string ⟨#[]⟩, .slice none 0 0, .slice none 0 0] 30)) w1.heap.size kd 0 ⟨#[]⟩ (.slice none 0 0) (.slice none 0 0) := heap_alloc_new w1 _
  have hS2 := hS1.alloc (.cells #[.int .i64 (kd : Nat), .int .i64 0, .string ⟨#[]⟩, .slice none 0 0, .slice none 0 0] 30)
  have hT2 := hT1.trans (Touched.alloc w1 sc (.cells #[.int .i64 (kd : Nat), .int .i64 0, .string ⟨#[]⟩, .slice none 0 0, .slice none 0 0] 30))
  have HV := hide hV
  have HS2 := hide hS2
  have HT2 := hide hT2
  clear hV hS1 hT1 hS2 hT2
  go_upto_region 2 with fail
  generalize hW : w1.alloc (.cells #[.int .i64 (kd : Nat), .int .i64 0, .string ⟨#[]⟩, .slice none 0 0, .slice none 0 0] 30) = W at *
  have hzW : W.heap.size = w1.heap.size + 1 := by rw [← hW]; simp
  clear hW
  generalize hcc : w1.heap.size = c at *
  clear hcc
  go_cut [4] (fun v wx => v = .pointer (some ⟨c + 1, 0, none⟩) ∧ PShape w sc s c kd p2 wx)
  case first =>
    obtain ⟨q', r0, r1, r2, r3⟩ := (HTb.out.touched HT2.out hsc).b.rows kd hpos.1 hpos.2
    have x0 := HV.out.c0
    have hkk : kd = 1 ∨ kd = 2 ∨ kd = 3 ∨ kd = 4 ∨ kd = 5 ∨ kd = 6 := by omega
    clear HF HG HB hj hy0 hy1 hy2
    have HSh : Hid (∀ qq, PShape w sc s c kd p2 (W.alloc (.cells #[.string qq, .bool (decide (kd = 2)), .int .i64 (lvn kd), .int .i64 (tparts kd : Nat)] 82))) := fun qq =>
      ⟨HV.out.alloc _, by rw [← hzW]; simp [World.cell?_alloc_at], by rw [← hzW]; simp [World.cell?_alloc_at], by rw [← hzW]; simp [World.cell?_alloc_at], HS2.out.alloc _, HT2.out.trans (Touched.alloc _ _ _), by simp; omega⟩
    rcases hkk with rfl | rfl | rfl | rfl | rfl | rfl
    all_goals
      go_wp2_with fail
      go_meet
      case rel => exact ⟨rfl, HSh.out _⟩
  case rest =>
    obtain ⟨rfl, hV0, n1, n2, n3, hS0, hT0, hz0⟩ := hcut
    rcases HF.out with ⟨rfl, hnm, rfl⟩ | ⟨nm, p3, hN, hrest⟩
    · have K2 := hide (pname_none sc s p2 wc hs hp2 hnm hS0 (HTb.out.touched hT0 hsc).a hsc)
      have n1' : wc.cell? ⟨c + 1, 1, none⟩ = some (.bool true) := n1
      have HO := hide ((Touched.alloc w sc ztm).trans hT0)
      clear hV0 n1 n2 n3 hS0 hT0 HF HG HB hnm hj hy0 hy1 hy2 HV HS2 HT2
      go_wp2_with (go_at_call 39; refine K2.out.mono ?_)
      intro e w3 h3
      have H3 := hide (h3.from HO.out)
      obtain ⟨fb, rfl, -⟩ := h3
      go_wp2_with fail
      exact ⟨rfl, BrkEnd.bad H3.out⟩
    · have HRe := hide hrest
      have HNp := hide hN
      have hp23 := hN.le hp2
      have HV0 := hide hV0
      have HS0 := hide hS0
      have HT0 := hide hT0
      clear HF hrest hN hV0 hS0 hT0 HV HS2 HT2
      go_upto_if 13 with fail
      go_cut [] (fun wx => PNamed w sc s c kd p3 nm wx)
      case first =>
        clear HRe HG HB hj hy0 hy1 hy2
        by_cases h2 : kd = 2
        · subst h2
          have hwn : WordAt s nm p2 p3 := by
            rcases HNp.out with ⟨_, h⟩ | ⟨h, _⟩
            · exact h
            · exact absurd rfl h
          have K2 := hide (pname_calls sc s p2 p3 nm wc hs hp2 hwn HS0.out (HTb.out.touched HT0.out hsc).a hsc)
          clear hwn
          go_wp2_with (go_at_call 39; refine K2.out.mono ?_)
          first | (intro e w3 he hS3 hT3; subst he) | (rintro e w3 ⟨rfl, hS3, hT3⟩)
          have hz3 := hT3.size
          have hV3 := HV0.out.of_block (hT3.at HV0.out.lt (by omega))
          have x2 := hV3.c2
          have x2f := hV3.f 2
          have hblk : w3.heap[c + 1]? = wc.heap[c + 1]? := hT3.at (by omega) (by omega)
          have HPn : Hid (PNamed w sc s c 2 p3 nm (w3.setCell ⟨c, 2, none⟩ (.string nm))) := by
            have hblk' : (w3.setCell ⟨c, 2, none⟩ (.string nm)).heap[c + 1]? = wc.heap[c + 1]? := by rw [Below.heap_setCell _ _ _ _ (by show c + 1 ≠ c; omega)]; exact hblk
            refine ⟨hV3.setName nm, (World.cell?_of_block hblk').trans n2, (World.cell?_of_block hblk').trans n3, hS3.of_block (Below.heap_setCell _ _ _ _ (by show sc ≠ c; omega)), (HT0.out.trans hT3).setNew (a := ⟨c, 2, none⟩) (by simp; omega) _, by simp [World.setCell]; omega⟩
          have hlt3 : c < w3.heap.size := by omega
          clear hS3 hT3 hV3 hblk
          go_wp2_with fail
          go_meet
          case rel => exact HPn.out
        · have hnn : nm = ⟨#[]⟩ ∧ p3 = p2 := by
            rcases HNp.out with ⟨h, _⟩ | ⟨_, h⟩
            · exact absurd h h2
            · exact h
          obtain ⟨rfl, rfl⟩ := hnn
          have hd2 : decide (kd = 2) = false := by simp [h2]
          go_wp2_with fail
          go_meet
          case rel => exact ⟨HV0.out, n2, n3, HS0.out, HT0.out, by omega⟩
      case rest =>
        clear n1 n2 n3 HV0 HS0 HT0 hz0
        obtain ⟨hV0, n2, n3, hS0, hT0, hz0⟩ := hcut
        rcases HRe.out with ⟨a, ls, p4, rfl, hO, hFl⟩ | ⟨ls, p4, hL, ts, p5, hSq, hE⟩
        · have K3 := hide (levels_open s hs sc p3 p4 kd a hsc hp23.2 ls hO hFl _ hS0 (HTb.out.touched hT0 hsc).a)
          have HO := hide ((Touched.alloc w sc ztm).trans hT0)
          clear hV0 n3 hS0 hT0 HG HB hj hy0 hy1 hy2 hO hFl HRe
          go_wp2_with (go_at_call 40; refine K3.out.mono ?_)
          intro e w3 h3
          have H3 := hide (h3.from HO.out)
          obtain ⟨fb, rfl, -⟩ := h3
          go_wp2_with fail
          exact ⟨rfl, BrkEnd.bad H3.out⟩
        · rename_i wn
          have K3 := hide (levels_part s hs sc p3 p4 kd hsc hp23.2 ls hL _ hS0 (HTb.out.touched hT0 hsc).a)
          have hp4 := (hL.few hp23.2).2.2
          have HV0 := hide hV0
          have HT0 := hide hT0
          have HE := hide hE
          have HSq := hide hSq
          clear hV0 hS0 hT0 hL hE hSq HRe
          go_wp2_with (go_at_call 40; refine K3.out.mono ?_)
          intro e w3 h3
          obtain ⟨A, lc, rfl, hLv, hS3, hT3⟩ := h3.1 rfl
          have hz3 := hT3.size
          have hV3 := HV0.out.of_block (hT3.at HV0.out.lt (by omega))
          have x3 := hV3.c3
          have x3f := hV3.f 3
          have n3' : w3.cell? ⟨c + 1, 3, none⟩ = some (.int .i64 (tparts kd : Nat)) := (World.cell?_of_block (hT3.at (k := c + 1) (by omega) (by omega))).trans n3
          have hlt3 : c < w3.heap.size := by omega
          have HDn : Hid (PDone w sc s c kd p4 nm ls (w3.setCell ⟨c, 3, none⟩ (.slice A ls.length lc)) ∧ TVar 30 (w3.setCell ⟨c, 3, none⟩ (.slice A ls.length lc)) c kd 0 nm (.slice A ls.length lc) (.slice none 0 0) ∧ LvsIn (w3.setCell ⟨c, 3, none⟩ (.slice A ls.length lc)) (fun b => c + 2 ≤ b ∧ b < (w3.setCell ⟨c, 3, none⟩ (.slice A ls.length lc)).heap.size) A ls) := by
            have hl : LvsIn (w3.setCell ⟨c, 3, none⟩ (.slice A ls.length lc)) (fun b => c + 2 ≤ b ∧ b < (w3.setCell ⟨c, 3, none⟩ (.slice A ls.length lc)).heap.size) A ls := hLv.keep fun b hb h => ⟨⟨by omega, by simp [World.setCell]; exact hb⟩, Below.heap_setCell _ _ _ _ (by show b ≠ c; omega)⟩
            refine ⟨⟨A, lc, hV3.setL _, ?_, hS3.of_block (Below.heap_setCell _ _ _ _ (by show sc ≠ c; omega)), (HT0.out.trans hT3).setNew (a := ⟨c, 3, none⟩) (by simp; omega) _, hl, by simp [World.setCell]; omega⟩, hV3.setL _, hl⟩
            exact (World.cell?_of_block (Below.heap_setCell _ _ _ _ (by show c + 1 ≠ c; omega))).trans n3'
          have n3s : (w3.setCell ⟨c, 3, none⟩ (.slice A ls.length lc)).cell? ⟨c + 1, 3, none⟩ = some (.int .i64 (tparts kd : Nat)) := (World.cell?_of_block (Below.heap_setCell _ _ _ _ (by show c + 1 ≠ c; omega))).trans n3'
          clear hLv hS3 hT3 hV3 h3 K3
          go_wp2_with fail
          generalize hX : w3.setCell ⟨c, 3, none⟩ (.slice A ls.length lc) = W3 at *
          clear hX
          obtain ⟨⟨_, _, _, _, hS4, hT4, _, hz4⟩, hV4, hL4⟩ := HDn.out
          have HSt : Hid (TReading w W3 sc c s kd d nm (.slice A ls.length lc) ts 0 p5 (.slice none 0 0) [] W3) := ⟨hV4, by simpa using TRow.start _ _ _ _, ⟨p4, by simpa using HSq.out, hp4, hS4⟩, hT4, Nat.le_refl _, fun _ _ _ => rfl⟩
          have HL4 := hide hL4
          have hc1 : w.heap.size + 1 ≤ c := hz1
          have htp : ts.length ≤ tparts kd := by rcases HE.out with ⟨a, _, h, _⟩ | ⟨h, _⟩ | ⟨h, _⟩ <;> omega
          have hmx : tparts kd ≤ 3 := by unfold tparts; split <;> (try split) <;> omega
          clear hV4 hS4 hT4 hL4 HDn x3 x3f n3' n3s hlt3 hz3 HV0 HT0 n2 n3 hz0 K1 HNp
          go_loopg [24] (ts.length) (fun g i wr => ∃ (k : Nat) (rv : Value) (xs : List Value), k + g = ts.length ∧ i = .int .i64 k ∧ Hid (TReading w W3 sc c s kd d nm (.slice A ls.length lc) ts k p5 rv xs wr))
          case atStart => exact ⟨0, _, _, by omega, rfl, HSt.out⟩
          case round =>
            clear HSt
            obtain ⟨k, rv, xs, hkg, rfl, HM⟩ := hrel
            have hxk : xs.length = k := by rw [HM.out.row.len]; simp; omega
            have hvl := HM.out.var.lt
            have hsz := HM.out.size
            obtain ⟨ao, nn, cc, rfl⟩ : ∃ ao nn cc, rv = .slice ao nn cc := by
              rcases HM.out.row.own.2 with ⟨e, _⟩ | ⟨g, cap, cur, e, _⟩
              · exact ⟨_, _, _, e⟩
              · exact ⟨_, _, _, e⟩
            have q4 := HM.out.var.c4
            have q4f := HM.out.var.f 4
            by_cases hkl : k < ts.length
            · obtain ⟨pk, hra, hpk, hSk⟩ := HM.out.scan
              rw [List.drop_eq_getElem_cons hkl] at hra
              obtain ⟨pn, hr1, hr2⟩ := hra
              have hpn := hr1.le
              have hkn : k < tparts kd := by omega
              have HI : Hid (Calls Tryz.prog 10 #[.pointer (some ⟨sc, 0, none⟩)] wr.drew fun e w' => TermOf wr.drew sc s d ts[k] pn e w') := HG.out ts[k] pk pn wr.drew hr1 hpk hSk (HTb.out.touched HM.out.old.drew' hsc)
              have HR2 := hide hr2
              clear hr1 hr2 hSk HG HB
              go_wp2_with fail
              go_region_law (first
                | (refine step_sterm (f := 10) (sc := sc) (s := s) (d := d) (p' := pn) (t := ts[k]) (args := #[.pointer (some ⟨sc, 0, none⟩)]) rfl ?_ ?_ ?_
                   · simp [go_sem]
                   · exact HI.out
                   intro k1 m1 nm1 A1 n1 cap1 A2 n2 cap2 w5 hin5 hS5 hT5
                   have hT6 : Touched wr sc w5 := ⟨hT5.os, hT5.tape, hT5.output, hT5.size, hT5.block⟩
                   have hV5 := HM.out.var.of_block (hT6.at hvl (by omega))
                   have v4 := hV5.c4
                   have v4f := hV5.f 4
                   have hz5 := hT6.size
                   have hlt5 : c < w5.heap.size := by omega
                   have HV5 := hide hV5
                   have HO5 := hide (HM.out.row.own.kept (row := some sc) hT6 (.inr (fun e => by have := (HM.out.row.own.lt sc e).1; omega)))
                   have HT5 := hide hT6
                   have HS5 := hide hS5
                   have HI5 := hide hin5
                   clear hT5 hT6 hin5 hV5 hS5)
                | (refine step_append_own rfl (.tmp 27) (.tmp 30) 28 rfl W3.heap.size 30 i5 _ 5 80 Tryz.underlying28 hj hy0 hy1 hy2 rfl (by decide) (.slice ao nn cc) xs.length (flat xs) ?_ (HO5.out.alloc _) ⟨w5.heap.size, 0, none⟩ 1 1 [.int .i64 k1, .int .i64 m1, .string nm1, .slice A1 n1 cap1, .slice A2 n2 cap2] ?_ rfl ?_ ?_ (by decide) (by unfold maxLen; omega) (by omega) ?_ ?_
                   · rfl
                   · rfl
                   · exact five_new _ _ _ _ _ _ _
                   · intro u hu; simp at hu; rcases hu with rfl | rfl | rfl | rfl | rfl <;> rfl
                   · show W3.heap.size ≤ (w5.alloc _).heap.size; simp; omega
                   intro v' w6 hown6 hgr6 hpl6
                   obtain ⟨g, cap', rfl, hgb⟩ := shape5 hown6 (by omega)
                   have hV6 := (HV5.out.alloc (.cells #[.int .i64 k1, .int .i64 m1, .string nm1, .slice A1 n1 cap1, .slice A2 n2 cap2] 30)).of_block (hgr6.block c (by simp; omega) (fun e => by have := (HM.out.row.own.lt _ e.symm).1; omega))
                   have u4 := hV6.c4
                   have u4f := hV6.f 4
                   have HV6 := hide hV6
                   have HO6 := hide hown6
                   have HG6 := hide hgr6
                   have HP6 := hide hpl6
                   clear hown6 hgr6 hpl6 hV6))
              all_goals
                have HNx := hide (HM.out.next hkl hlt hc1 hz4 HR2.out hpn HT5.out HS5.out HI5.out HO6.out HG6.out HP6.out)
                go_wp2_with fail
                go_roundg (ts.length - (k + 1))
                case measure => omega
                case rel => exact ⟨k + 1, _, _, by omega, by go_num, by have h' := HNx.out; rw [hxk] at h'; exact h'⟩
            · have hke : k = ts.length := by omega
              subst hke
              obtain ⟨pk, hra, hpk, hSk⟩ := HM.out.scan
              rw [List.drop_length] at hra
              have hra' : p5 = pk := hra
              subst hra'
              have htw := HTb.out.touched HM.out.old hsc
              have HOld := hide ((Touched.alloc w sc ztm).trans HM.out.old)
              rcases HE.out with ⟨a, rfl, hm, hft⟩ | ⟨hm, hcl, rfl⟩ | ⟨hm, hcl, rfl, rfl⟩
              · have HI : Hid (Calls Tryz.prog 10 #[.pointer (some ⟨sc, 0, none⟩)] wr.drew fun e w' => Threw wr.drew sc 1 a e w') := HB.out p5 a wr.drew hft hpk hSk (HTb.out.touched HM.out.old.drew' hsc)
                clear hSk htw hft HG HB
                go_wp2_with fail
                go_region_law (first
                  | (refine step_throwT (f := 10) (sc := sc) (a0 := a) (args := #[.pointer (some ⟨sc, 0, none⟩)]) rfl ?_ ?_ ?_ ?_
                     · simp [go_sem]
                     · exact HI.out
                     · intro fb w5 h5
                       exact ⟨rfl, BrkEnd.bad (h5.from HOld.out.drew')⟩
                     intro k1 m1 nm1 A1 n1 cap1 A2 n2 cap2 w5 HF
                     have v2 : w5.cell? ⟨c, 4, none⟩ = some (.slice ao nn cc) := HF.out.elim
                     have v3 : w5.frozen? ⟨c, 4, none⟩ = false := HF.out.elim
                     have hlt5 : c < w5.heap.size := HF.out.elim)
                  | (refine step_append_own rfl (.tmp 27) (.tmp 30) 28 rfl W3.heap.size 30 i5 _ 5 80 Tryz.underlying28 hj hy0 hy1 hy2 rfl (by decide) (.slice ao nn cc) xs.length (flat xs) ?_ HF.out.elim ⟨w5.heap.size, 0, none⟩ 1 1 [.int .i64 k1, .int .i64 m1, .string nm1, .slice A1 n1 cap1, .slice A2 n2 cap2] ?_ rfl HF.out.elim HF.out.elim (by decide) HF.out.elim HF.out.elim HF.out.elim ?_
                     · rfl
                     · rfl
                     intro v' w6 _ _ _
                     obtain ⟨g, cap', rfl⟩ : ∃ (g cap' : Nat), v' = .slice (some ⟨g, 0, none⟩) (xs.length + 1) cap' := HF.out.elim
                     have u2 : w6.cell? ⟨c, 4, none⟩ = some (.slice ao nn cc) := HF.out.elim
                     have u3 : w6.frozen? ⟨c, 4, none⟩ = false := HF.out.elim))
                all_goals exact HF.out.elim
              · have hkn : ¬ ts.length < tparts kd := by omega
                have K9 := hide (expect_bad sc s p5 _ _ _ _ [2] (.slice (some ⟨wr.heap.size, 0, none⟩) 1 1) _ (next_all hs hpk) (hSk.alloc (.cells #[.int .i64 2] 56)) (htw.a.below ((Below.refl _ _).alloc (Nat.le_refl _) _) htw.lt) hsc (kinds1 2) (fun b n cap e => by injection e with e; injection e with e; injection e with e; have := hSk.lt; omega) (by simp) (by simpa using noshut_kind hpk hcl))
                clear hcl htw hSk HG HB
                go_wp2_with (go_at_call 18; refine K9.out.mono ?_)
                intro e w7 h7
                have H7 := hide (h7.from (HOld.out.trans (Touched.alloc wr sc (.cells #[.int .i64 2] 56))))
                obtain ⟨fb, rfl, -⟩ := h7
                go_wp2_with fail
                exact ⟨rfl, BrkEnd.bad H7.out⟩
              · have hkn : ¬ ts.length < tparts kd := by omega
                have K9 := hide (expect_calls sc s p5 2 _ p' _ [2] (.slice (some ⟨wr.heap.size, 0, none⟩) 1 1) _ (hcl.nexts hs hpk 2 (.inr ⟨rfl, rfl⟩)) (hSk.alloc (.cells #[.int .i64 2] 56)) (htw.a.below ((Below.refl _ _).alloc (Nat.le_refl _) _) htw.lt) hsc (kinds1 2) (fun b n cap e => by injection e with e; injection e with e; injection e with e; have := hSk.lt; omega) (by simp))
                clear hcl htw hSk HG HB
                go_wp2_with (go_at_call 18; refine K9.out.mono ?_)
                first | (intro e w7 he hS7 hT7; subst he) | (rintro e w7 ⟨rfl, hS7, hT7⟩)
                have hT8 : Touched wr sc w7 := (Touched.alloc wr sc (.cells #[.int .i64 2] 56)).trans hT7
                have hV7 := HM.out.var.of_block (hT8.at hvl (by omega))
                have v0 := hV7.c0
                have v1 := hV7.c1
                have v2 := hV7.c2
                have v3 := hV7.c3
                have v4 := hV7.c4
                obtain ⟨d0, d1, d2, d3, d4, d5, d6⟩ := tzcells hlt (HM.out.old.trans hT8)
                have HFi := hide (sterm_stored hlt hS7 (HOld.out.trans hT8) (HM.out.made hlt hc1 hz4 HL4.out hT8))
                clear hS7 hT7 hT8 hV7
                go_wp2_with fail
                refine bodyPost_ret (v := .agg #[.int .i64 kd, .int .i64 0, .string nm, .slice A ls.length lc, .slice ao nn cc]) (by simp [results, Tryz.results19, go_sem, d0, d1, d2, d3, d4]) rfl ?_
                exact BrkEnd.good HFi.out

end Go.Proofs.YtahcgpnjlmpkpaaGreatDoor

namespace Go.Proofs.YtahcgpnjlmpkpaaGreatDoor
open Go.RowKit

abbrev kinds2 : Obj := .cells #[.int .i64 1, .int .i64 5] 56

theorem kinds2_in (w : World) : InKinds ((w.alloc ztm).alloc kinds2) (.slice (some ⟨w.heap.size + 1, 0, none⟩) 2 2) [1, 5] := by
  refine ⟨by simp, w.heap.size + 1, 2, rfl, fun i hi => ?_⟩
  match i, hi with
  | 0, _ => simp [World.cell?_alloc_at]
  | 1, _ => simp [World.cell?_alloc_at]

/-- Term's first call. -/
theorem term_expect (sc : Nat) (s : ByteArray) (p kd k p' : Nat) (t : ByteArray) (w : World) (hn : Nexts s p kd k p' t) (h : ScAt w sc s p) (ht : Tabs w) (hsc : 6 < sc) (hk : kd = 1 ∨ kd = 5) :
    Calls Tryz.prog 18 #[.pointer (some ⟨sc, 0, none⟩), .slice (some ⟨w.heap.size + 1, 0, none⟩) 2 2] ((w.alloc ztm).alloc kinds2) fun e w' => e = .returned (.agg #[.int .i64 (kd : Nat), .int .i64 (k : Nat), .string t]) ∧ ScAt w' sc s p' ∧ Touched (w.alloc ztm) sc w' := by
  have hlt := h.lt
  have hb : Below w.heap.size w ((w.alloc ztm).alloc kinds2) := ((Below.refl _ _).alloc (Nat.le_refl _) _).alloc (by simp) _
  refine (expect_calls sc s p kd k p' t [1, 5] _ _ hn ((h.alloc _).alloc _) (ht.below hb ht.lt) hsc (kinds2_in w) (fun b n cap e => by injection e with e; injection e with e; injection e with e; omega) (by simp; exact hk)).mono ?_
  rintro e w' ⟨he, hS, hT⟩
  exact ⟨he, hS, (Touched.alloc _ _ _).trans hT⟩

theorem term_expect_bad (sc : Nat) (s : ByteArray) (p kd k p' : Nat) (t : ByteArray) (w : World) (hn : Nexts s p kd k p' t) (h : ScAt w sc s p) (ht : Tabs w) (hsc : 6 < sc) (h1 : kd ≠ 1) (h5 : kd ≠ 5) :
    Calls Tryz.prog 18 #[.pointer (some ⟨sc, 0, none⟩), .slice (some ⟨w.heap.size + 1, 0, none⟩) 2 2] ((w.alloc ztm).alloc kinds2) fun e w' => Threw w sc 1 k e w' := by
  have hlt := h.lt
  have hb : Below w.heap.size w ((w.alloc ztm).alloc kinds2) := ((Below.refl _ _).alloc (Nat.le_refl _) _).alloc (by simp) _
  exact (expect_bad sc s p kd k p' t [1, 5] _ _ hn ((h.alloc _).alloc _) (ht.below hb ht.lt) hsc (kinds2_in w) (fun b n cap e => by injection e with e; injection e with e; injection e with e; omega) (by simp) (by simp; exact ⟨h1, h5⟩)).mono fun e w' h => h.from ((Touched.alloc _ _ _).trans (Touched.alloc _ _ _))

set_option maxRecDepth 100000 in
set_option maxHeartbeats 4000000 in
/-- Term, where none begins. -/
theorem sterm_none (sc : Nat) (s : ByteArray) (p : Nat) (w : World) (hs : s.size ≤ 20000) (hp : p ≤ s.size) (hn : NoTm s p) (h : ScAt w sc s p) (ht : Tabs w) (hsc : 6 < sc) :
    Calls Tryz.prog 10 #[.pointer (some ⟨sc, 0, none⟩)] w fun e w' => Threw w sc 1 (runTo blankB s p) e w' := by
  have hk := noterm_kind hp hn
  have K1 := hide (term_expect_bad sc s p _ _ _ _ w (next_all hs hp) h ht hsc hk.1 hk.2)
  clear h ht hn hk
  go_enter Tryz.func10, Tryz.ntmps10
  go_wp2_with (go_at_call 18; refine K1.out.mono ?_)
  intro e w1 h1
  have H1 := hide h1
  obtain ⟨fb, rfl, -⟩ := h1
  go_wp2_with fail
  exact ⟨rfl, H1.out⟩

set_option maxRecDepth 100000 in
set_option maxHeartbeats 4000000 in
/-- Term, where a bracket opens. -/
theorem sterm_open (sc : Nat) (s : ByteArray) (d : Nat) (t0 : Tm) (p p1 p' : Nat) (fin : Option Nat) (w : World) (hs : s.size ≤ 20000) (hp : p ≤ s.size) (hr : SignAt s 40 p p1) (h : ScAt w sc s p) (ht : Tabs2 w) (hsc : 6 < sc)
    (hin : ∀ W, ScAt W sc s p1 → Tabs2 W → Calls Tryz.prog 19 #[.pointer (some ⟨sc, 0, none⟩)] W fun e w' => BrkEnd W sc s d t0 p' fin e w') :
    Calls Tryz.prog 10 #[.pointer (some ⟨sc, 0, none⟩)] w fun e w' => BrkEnd w sc s d t0 p' fin e w' := by
  have hlt := h.lt
  have K1 := hide (term_expect sc s p 1 _ p1 _ w (hr.nexts hs hp 1 (.inl ⟨rfl, rfl⟩)) h ht.a hsc (.inl rfl))
  have K2 := hide hin
  have HTb := hide ht
  clear h ht hr hin
  generalize s.extract (runTo blankB s p) p1 = t at *
  generalize runTo blankB s p = k at *
  go_enter Tryz.func10, Tryz.ntmps10
  go_wp2_with (go_at_call 18; refine K1.out.mono ?_)
  rintro e w1 ⟨rfl, hS1, hT1⟩
  have hT2 := ((Touched.alloc w sc ztm).trans hT1).trans (Touched.alloc _ sc (.cells #[.int .i64 (1 : Nat), .int .i64 (k : Nat), .string t] 58))
  have hT3 := hT1.trans (Touched.alloc _ sc (.cells #[.int .i64 (1 : Nat), .int .i64 (k : Nat), .string t] 58))
  have K3 := hide (K2.out _ (hS1.alloc (.cells #[.int .i64 (1 : Nat), .int .i64 (k : Nat), .string t] 58)) (HTb.out.touched hT2 hsc))
  have hz := hT1.size
  simp at hz
  have HT2 := hide hT2
  have HT3 := hide hT3
  clear hS1 hT1 hT2 hT3
  go_wp2_with (go_at_call 19; refine K3.out.mono ?_)
  intro e w2 h2
  cases fin with
  | none =>
    obtain ⟨k2, n2, nm, A, la, lc, A', ta, tc, rfl, hp2, hS2, hTT⟩ := h2.1 rfl
    obtain ⟨d0, d1, d2, d3, d4, d5, d6⟩ := tzcells hlt (HT3.out.trans hTT)
    have HFi := hide (sterm_stored hlt hS2 (HT2.out.trans hTT) (hp2.keep fun b _ hb => ⟨by simp at hb; omega, rfl⟩))
    clear hp2 hS2 hTT h2
    go_wp2_with fail
    refine bodyPost_ret (v := .agg #[.int .i64 k2, .int .i64 n2, .string nm, .slice A la lc, .slice A' ta tc]) (by simp [results, Tryz.results10, go_sem, d0, d1, d2, d3, d4]) rfl ?_
    exact BrkEnd.good HFi.out
  | some a =>
    have h3 := h2.2 a rfl
    have H3 := hide (h3.from HT2.out)
    obtain ⟨fb, rfl, -⟩ := h3
    clear h2
    go_wp2_with fail
    exact ⟨rfl, BrkEnd.bad H3.out⟩

set_option maxRecDepth 100000 in
set_option maxHeartbeats 4000000 in
/-- Term, where an index stands. -/
theorem sterm_index (sc : Nat) (s : ByteArray) (n p p' : Nat) (w : World) (hs : s.size ≤ 20000) (hp : p ≤ s.size) (hi : IdxAt s n p p') (h : ScAt w sc s p) (ht : Tabs w) (hsc : 6 < sc) :
    Calls Tryz.prog 10 #[.pointer (some ⟨sc, 0, none⟩)] w fun e w' => TermOf w sc s 1 (.node 0 n ⟨#[]⟩ [] []) p' e w' := by
  have hlt := h.lt
  have K1 := hide (term_expect sc s p 5 _ p' _ w (hi.nexts hs hp) h ht hsc (.inr rfl))
  have hle := hi.le
  obtain ⟨hk, hc, he, hg, hn⟩ := hi
  have hge := digitEnd_ge s (runTo blankB s p)
  rw [← he] at hge
  have hgd := (good_iff hk he).2 ((good_iff hk he).1.2 hg)
  have hsz : (s.extract (runTo blankB s p) p').size = p' - runTo blankB s p := by rw [ByteArray.size_extract]; omega
  have hx : (s.extract (runTo blankB s p) p').extract 1 (s.extract (runTo blankB s p) p').size = s.extract (runTo blankB s p + 1) p' := by
    rw [hsz]
    rw [ByteArray.ext_iff]
    apply Array.ext'
    apply List.ext_getElem
    · simp; omega
    · intro i h1 h2
      simp
  have hdg : Digs (s.extract (runTo blankB s p + 1) p') := run_digs (by omega) he.symm
  have KN := hide (fun W (hW : Tabs W) => number_calls (s.extract (runTo blankB s p + 1) p') 99999 W (by rw [ByteArray.size_extract]; omega) hdg hW)
  rw [hgd, ← hn, ← hx] at KN
  have hts : 1 ≤ (s.extract (runTo blankB s p) p').size := by rw [hsz]; omega
  have htm : (s.extract (runTo blankB s p) p').size ≤ 20000 := by rw [hsz]; omega
  have HTb := hide ht
  clear h ht hk hc he hg hn hge hgd hsz hx hdg
  generalize s.extract (runTo blankB s p) p' = t at *
  generalize runTo blankB s p = k at *
  go_enter Tryz.func10, Tryz.ntmps10
  go_wp2_with (go_at_call 18; refine K1.out.mono ?_)
  rintro e w1 ⟨rfl, hS1, hT1⟩
  have hT2 := ((Touched.alloc w sc ztm).trans hT1).trans (Touched.alloc _ sc (.cells #[.int .i64 (5 : Nat), .int .i64 (k : Nat), .string t] 58))
  have hT3 := hT1.trans (Touched.alloc _ sc (.cells #[.int .i64 (5 : Nat), .int .i64 (k : Nat), .string t] 58))
  have K3 := hide (KN.out _ (HTb.out.touched hT2 hsc))
  have HS2 := hide (hS1.alloc (.cells #[.int .i64 (5 : Nat), .int .i64 (k : Nat), .string t] 58))
  have HT2 := hide hT2
  have HT3 := hide hT3
  clear hS1 hT1 hT2 hT3
  go_wp2_with (go_at_call 20; refine K3.out.mono ?_)
  rintro e w2 ⟨rfl, hb2⟩
  have hTT := HT3.out.trans (Touched.of_below (m := sc) hb2)
  obtain ⟨d0, d1, d2, d3, d4, d5, d6⟩ := tzcells hlt hTT
  have HFi := hide (sterm_stored (d := 1) (t := .node 0 n ⟨#[]⟩ [] []) (k := 0) (n := (n : Nat)) (nm := ⟨#[]⟩) (A := none) (la := 0) (lc := 0) (A' := none) (ta := 0) (tc := 0) hlt (HS2.out.below hb2) (HT2.out.trans (Touched.of_below (m := sc) hb2)) ⟨none, 0, none, 0, rfl, fun i hi => absurd hi (by simp [Tm.ls]), fun i hi => absurd hi (by simp [Tm.ts])⟩)
  clear hb2 hTT
  go_wp2_with fail
  refine bodyPost_ret (v := .agg #[.int .i64 0, .int .i64 (n : Nat), .string ⟨#[]⟩, .slice none 0 0, .slice none 0 0]) (by simp [results, Tryz.results10, go_sem, d0, d1, d2, d3, d4]) rfl ?_
  exact HFi.out

set_option maxRecDepth 100000 in
set_option maxHeartbeats 4000000 in
/-- termInBrackets, where Word throws. -/
theorem tbrack_throw (sc a : Nat) (w : World) (K : Calls Tryz.prog 37 #[.pointer (some ⟨sc, 0, none⟩), .func (.func 38) #[] #[]] (w.alloc ztm) fun e w' => Threw (w.alloc ztm) sc 1 a e w') :
    Calls Tryz.prog 19 #[.pointer (some ⟨sc, 0, none⟩)] w fun e w' => Threw w sc 1 a e w' := by
  have K1 := hide K
  clear K
  go_enter Tryz.func19, Tryz.ntmps19
  go_wp2_with (go_at_call 37; refine K1.out.mono ?_)
  intro e w3 h3
  have H3 := hide (h3.from (Touched.alloc w sc ztm))
  obtain ⟨fb, rfl, -⟩ := h3
  go_wp2_with fail
  exact ⟨rfl, H3.out⟩

theorem tbrack_word (s : ByteArray) (hs : s.size ≤ 20000) (sc p1 : Nat) (hsc : 6 < sc) (hp1 : p1 ≤ s.size) (hno : NoTW s p1) (w : World) (h : ScAt w sc s p1) (ht : Tabs2 w) :
    Calls Tryz.prog 19 #[.pointer (some ⟨sc, 0, none⟩)] w fun e w' => Threw w sc 1 (runTo blankB s p1) e w' := by
  have ht0 := ht.below ((Below.refl _ _).alloc (Nat.le_refl _) ztm) ht.lt
  have hx := next_all (s := s) (p := p1) hs hp1
  refine tbrack_throw sc _ w ?_
  by_cases h3' : (ntok s p1).1 = 3
  · have he : runTo blankB s p1 ≠ s.size := fun he => by rw [ntok_end he] at h3'; simp at h3'
    have hk : runTo blankB s p1 < s.size := by have := runTo_le blankB s hp1; omega
    have h3n := h3'
    rw [ntok_in he] at h3n
    have hw := scan_word (good := good) hk h3n
    have hnt : ntext s p1 = (tok s p1).t := by unfold ntext; rw [if_neg he, ntok_in he]; exact hw.symm
    rw [hnt, h3'] at hx
    refine tword_other sc s p1 _ _ _ _ hx (h.alloc ztm) ht0 hsc ?_ hno
    rw [hw]
    intro e
    have e2 := congrArg ByteArray.size e
    obtain ⟨x1, x2, _, _⟩ := scanAt_end (good := good) hk
    rw [ByteArray.size_extract] at e2
    have e0 : (⟨#[]⟩ : ByteArray).size = 0 := rfl
    rw [e0] at e2
    omega
  · exact tword_none sc s p1 _ _ _ _ _ hx (h.alloc ztm) ht0 hsc h3'

/-- Term: where a term stands, it is read; where none does, the fault is thrown. -/
theorem sterm_both (s : ByteArray) (hs : s.size ≤ 20000) (sc : Nat) (hsc : 6 < sc) : ∀ (d : Nat),
    (∀ (t : Tm) (p p' : Nat) (W : World), RT s d t p p' → p ≤ s.size → ScAt W sc s p → Tabs2 W → Calls Tryz.prog 10 #[.pointer (some ⟨sc, 0, none⟩)] W fun e w' => TermOf W sc s d t p' e w') ∧
    (∀ (p a : Nat) (W : World), FT s d p a → p ≤ s.size → ScAt W sc s p → Tabs2 W → Calls Tryz.prog 10 #[.pointer (some ⟨sc, 0, none⟩)] W fun e w' => Threw W sc 1 a e w')
  | 0 => ⟨fun _ _ _ _ h => absurd h (by simp [RT]), fun _ _ _ h => absurd h (by simp [FT])⟩
  | d + 1 => by
    obtain ⟨ihg, ihb⟩ := sterm_both s hs sc hsc d
    refine ⟨fun t p p' W h hp hS hT => ?_, fun p a W h hp hS hT => ?_⟩
    · rcases h with ⟨h1, h2, h3, h4, h5⟩ | ⟨p1, p2, p3, p4, p5, q, h1, h2, h3, h4, h5, h6, h7, h8, h9⟩
      · have e : t = .node 0 t.n ⟨#[]⟩ [] [] := Tm.ext h1 rfl h2 h3 h4
        rw [e]
        exact (sterm_index sc s t.n p p' W hs hp h5 hS hT.a hsc).mono fun e w' ⟨k, n, nm, A, la, lc, A', ta, tc, he, hin, h1, h2⟩ => ⟨k, n, nm, A, la, lc, A', ta, tc, he, hin.deeper (by omega), h1, h2⟩
      · have e : t = .node t.kd 0 t.nm t.ls t.ts := Tm.ext rfl h4 rfl rfl rfl
        exact (sterm_open sc s (d + 1) t p p1 p' none W hs hp h1 hS hT hsc fun W' hS' hT' => tbrack_walk s hs sc p1 p2 t.kd d hsc h1.le q h2 h3 ihg ihb none t p' (.inr ⟨t.nm, p3, h5, .inr ⟨t.ls, p4, h6, t.ts, p5, h7, .inr (.inr ⟨h8, h9, rfl, e⟩)⟩⟩) W' hS' hT').mono fun e w' h => h.1 rfl
    · rcases h with ⟨hn, rfl⟩ | ⟨p1, h1, ⟨hno, rfl⟩ | ⟨q, kd, p2, h2, h3, hrest⟩⟩
      · exact sterm_none sc s p W hs hp hn hS hT.a hsc
      · exact (sterm_open sc s (d + 1) (.node 0 0 ⟨#[]⟩ [] []) p p1 0 (some _) W hs hp h1 hS hT hsc fun W' hS' hT' => (tbrack_word s hs sc p1 hsc h1.le hno W' hS' hT').mono fun e w' h => BrkEnd.bad h).mono fun e w' h => h.2 _ rfl
      · refine (sterm_open sc s (d + 1) (.node 0 0 ⟨#[]⟩ [] []) p p1 0 (some a) W hs hp h1 hS hT hsc fun W' hS' hT' => tbrack_walk s hs sc p1 p2 kd d hsc h1.le q h2 h3 ihg ihb (some a) (.node 0 0 ⟨#[]⟩ [] []) 0 ?_ W' hS' hT').mono fun e w' h => h.2 _ rfl
        rcases hrest with ⟨e, hnm, rfl⟩ | ⟨nm, p3, hN, ⟨ls, p4, hO, hFl⟩ | ⟨ls, p4, hL, ts, p5, hSq, ⟨hlt, hft⟩ | ⟨hlen, htk, rfl⟩⟩⟩
        · exact .inl ⟨e, hnm, rfl⟩
        · exact .inr ⟨nm, p3, hN, .inl ⟨a, ls, p4, rfl, hO, hFl⟩⟩
        · exact .inr ⟨nm, p3, hN, .inr ⟨ls, p4, hL, ts, p5, hSq, .inl ⟨a, rfl, hlt, hft⟩⟩⟩
        · exact .inr ⟨nm, p3, hN, .inr ⟨ls, p4, hL, ts, p5, hSq, .inr (.inl ⟨hlen, htk, rfl⟩)⟩⟩

end Go.Proofs.YtahcgpnjlmpkpaaGreatDoor
