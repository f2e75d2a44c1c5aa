/- A level that is read: where it lies; the contract of level where a fault stands already, and at a 0. -/
import Derived.Test.YtpdoegjddiaaoaaDoorDone
import Derived.Test.YtpdoegjddiaaoaaDoorTokName
namespace Go.Proofs.YtpdoegjddiaaoaaDoor
open Go.RowKit

/-- The value is that level, all its parts in blocks from lo on. -/
def InAbove (w : World) (lo : Nat) : LvB → Value → Prop
  | .zero, v => v = .agg #[.int .i64 0, .string ⟨#[]⟩, .slice none 0 0]
  | .param p, v => v = .agg #[.int .i64 4, .string p, .slice none 0 0]
  | .succ a, v => ∃ b cap x, v = .agg #[.int .i64 1, .string ⟨#[]⟩, .slice (some ⟨b, 0, none⟩) 1 cap] ∧ lo ≤ b ∧ Three w b 0 x ∧ InAbove w lo a x
  | .max a c, v => ∃ b cap x y, v = .agg #[.int .i64 2, .string ⟨#[]⟩, .slice (some ⟨b, 0, none⟩) 2 cap] ∧ lo ≤ b ∧ Three w b 0 x ∧ Three w b 3 y ∧ InAbove w lo a x ∧ InAbove w lo c y
  | .imax a c, v => ∃ b cap x y, v = .agg #[.int .i64 3, .string ⟨#[]⟩, .slice (some ⟨b, 0, none⟩) 2 cap] ∧ lo ≤ b ∧ Three w b 0 x ∧ Three w b 3 y ∧ InAbove w lo a x ∧ InAbove w lo c y

theorem Three.lt {w : World} {b o : Nat} {x : Value} (h : Three w b o x) : b < w.heap.size := by
  obtain ⟨_, _, _, _, _, _, h0, _⟩ := h
  exact World.block_lt_of_cell? _ _ h0
theorem Three.touched {w w' : World} {rb b o : Nat} {x : Value} (h : Three w b o x) (ht : Touched w rb w') (hne : b ≠ rb) : Three w' b o x := by
  have hlt := h.lt
  obtain ⟨k, nm, A, n, cap, e, h0, h1, h2⟩ := h
  exact ⟨k, nm, A, n, cap, e, by rw [ht.cell hlt hne]; exact h0, by rw [ht.cell hlt hne]; exact h1, by rw [ht.cell hlt hne]; exact h2⟩

theorem InAbove.touched {w w' : World} {rb lo : Nat} (ht : Touched w rb w') (hlo : rb < lo) : ∀ {l : LvB} {v : Value}, InAbove w lo l v → InAbove w' lo l v
  | .zero, _, hl => hl
  | .param _, _, hl => hl
  | .succ a, _, ⟨b, cap, x, e, hb, h3, ha⟩ => ⟨b, cap, x, e, hb, h3.touched ht (by omega), InAbove.touched ht hlo (l := a) ha⟩
  | .max a c, _, ⟨b, cap, x, y, e, hb, h3, h4, ha, hc⟩ => ⟨b, cap, x, y, e, hb, h3.touched ht (by omega), h4.touched ht (by omega), InAbove.touched ht hlo (l := a) ha, InAbove.touched ht hlo (l := c) hc⟩
  | .imax a c, _, ⟨b, cap, x, y, e, hb, h3, h4, ha, hc⟩ => ⟨b, cap, x, y, e, hb, h3.touched ht (by omega), h4.touched ht (by omega), InAbove.touched ht hlo (l := a) ha, InAbove.touched ht hlo (l := c) hc⟩

theorem InAbove.mono {w : World} {lo lo' : Nat} (h : lo' ≤ lo) : ∀ {l : LvB} {v : Value}, InAbove w lo l v → InAbove w lo' l v
  | .zero, _, hl => hl
  | .param _, _, hl => hl
  | .succ a, _, ⟨b, cap, x, e, hb, h3, ha⟩ => ⟨b, cap, x, e, Nat.le_trans h hb, h3, InAbove.mono h (l := a) ha⟩
  | .max a c, _, ⟨b, cap, x, y, e, hb, h3, h4, ha, hc⟩ => ⟨b, cap, x, y, e, Nat.le_trans h hb, h3, h4, InAbove.mono h (l := a) ha, InAbove.mono h (l := c) hc⟩
  | .imax a c, _, ⟨b, cap, x, y, e, hb, h3, h4, ha, hc⟩ => ⟨b, cap, x, y, e, Nat.le_trans h hb, h3, h4, InAbove.mono h (l := a) ha, InAbove.mono h (l := c) hc⟩

theorem InAbove.inLv {w : World} {lo : Nat} : ∀ {l : LvB} {v : Value}, InAbove w lo l v → InLv w w.heap.size l v
  | .zero, _, hl => hl
  | .param _, _, hl => hl
  | .succ a, _, ⟨b, cap, x, e, _, h3, ha⟩ => ⟨b, cap, x, e, h3.lt, h3, InAbove.inLv (l := a) ha⟩
  | .max a c, _, ⟨b, cap, x, y, e, _, h3, h4, ha, hc⟩ => ⟨b, cap, x, y, e, h3.lt, h3, h4, InAbove.inLv (l := a) ha, InAbove.inLv (l := c) hc⟩
  | .imax a c, _, ⟨b, cap, x, y, e, _, h3, h4, ha, hc⟩ => ⟨b, cap, x, y, e, h3.lt, h3, h4, InAbove.inLv (l := a) ha, InAbove.inLv (l := c) hc⟩

/-- What a reading of a level leaves: a value of a level's shape, the reader further on; where there is no fault, a level no greater than what was read. -/
def LevelPost (w : World) (rb : Nat) (s : ByteArray) (p code : Nat) (e : Ending) (w' : World) : Prop :=
  ∃ (k : Int) (nm : ByteArray) (A : Option Addr) (n cap p' c' a' : Nat), e = .returned (.agg #[.int .i64 k, .string nm, .slice A n cap]) ∧ RdAt w' rb s p' c' a' ∧ p ≤ p' ∧ p' ≤ s.size ∧ Touched w rb w' ∧
    (c' = 0 → code = 0 ∧ ∃ l : LvB, InAbove w' w.heap.size l (.agg #[.int .i64 k, .string nm, .slice A n cap]) ∧ l.nodes ≤ p' - p ∧ ∀ q, Lv.has q l → Nm q)

abbrev zlev : Obj := .cells #[.int .i64 0, .string ⟨#[]⟩, .slice none 0 0] 28

set_option maxHeartbeats 1000000 in
theorem level_not (rb : Nat) (s : ByteArray) (p code a : Nat) (w : World) (hs : s.size ≤ 20000) (hp : p ≤ s.size) (hc : code ≠ 0) (h : RdAt w rb s p code a) :
    Calls Tryd.prog 13 #[.pointer (some ⟨rb, 0, none⟩)] w fun e w' => LevelPost w rb s p code e w' := by
  have hal := h.alloc zlev
  have hrb := h.lt
  have HT := hide (token_calls s p rb _ hs hp hal.c0 hal.c1)
  obtain ⟨k1, k2, k3, k4⟩ := tok_facts hp
  have HN := hide (fun W => isName_calls (tok s p).t W (by omega))
  have c2 := h.c2
  have HR := hide hal
  have e1 : ((code : Int) == 0) = false := by simp; omega
  have HC := hide hc
  clear h hal hc k1 k2 k3 k4
  generalize (tok s p).t = t at *
  generalize (tok s p).at_ = k at *
  generalize (tok s p).ok = ok at *
  go_enter Tryd.func13, Tryd.ntmps13
  go_wp2_with (first
    | (go_at_call 26; refine HT.out.mono ?_; rintro e w' ⟨rfl, rfl⟩)
    | (go_at_call 27; refine (HN.out _).mono ?_; rintro e w' ⟨rfl, rfl⟩))
  refine bodyPost_ret (v := .agg #[.int .i64 0, .string ⟨#[]⟩, .slice none 0 0]) (by simp [results, Tryd.results13, go_sem]) rfl ?_
  exact ⟨0, ⟨#[]⟩, none, 0, 0, p, code, a, rfl, HR.out, Nat.le_refl _, hp, Touched.alloc _ _ _, fun h => absurd h HC.out⟩

set_option maxHeartbeats 1000000 in
theorem level_zero (rb : Nat) (s : ByteArray) (p a : Nat) (w : World) (hs : s.size ≤ 20000) (hp : p ≤ s.size) (h : RdAt w rb s p 0 a) (ht : (tok s p).t = ⟨#[48]⟩) :
    Calls Tryd.prog 13 #[.pointer (some ⟨rb, 0, none⟩)] w fun e w' => LevelPost w rb s p 0 e w' := by
  have hal := h.alloc zlev
  have hrb := h.lt
  have HT := hide (token_calls s p rb _ hs hp hal.c0 hal.c1)
  obtain ⟨k1, k2, k3, k4⟩ := tok_facts hp
  have HN := hide (fun W => isName_calls (tok s p).t W (by omega))
  have HX := hide (next_calls rb s p a _ hs hp hal (by rw [ht]; intro e; cases e))
  rw [ht] at HT HN k2 HX
  have k2' : (tok s p).at_ + 1 ≤ s.size := k2
  have HK := hide k1
  have c2 := h.c2
  clear h hal k1 k2 k3 k4 ht
  generalize (tok s p).at_ = k at *
  generalize (tok s p).ok = ok at *
  go_enter Tryd.func13, Tryd.ntmps13
  go_wp2_with (first
    | (go_at_call 26; refine HT.out.mono ?_; rintro e w' ⟨rfl, rfl⟩)
    | (go_at_call 27; refine (HN.out _).mono ?_; rintro e w' ⟨rfl, rfl⟩)
    | (go_at_call 28; refine HX.out.mono ?_))
  rintro e w' ⟨rfl, hr, ht⟩
  have hz := ht.size
  have hblk := ht.block w.heap.size (by simp) (by simp; omega)
  have d4 : w'.cell? ⟨w.heap.size, 0, none⟩ = some (.int .i64 0) := by rw [World.cell?_of_block hblk]; simp
  have d5 : w'.cell? ⟨w.heap.size, 1, none⟩ = some (.string ⟨#[]⟩) := by rw [World.cell?_of_block hblk]; simp
  have d6 : w'.cell? ⟨w.heap.size, 2, none⟩ = some (.slice none 0 0) := by rw [World.cell?_of_block hblk]; simp
  have f4 : ∀ i, w'.frozen? ⟨w.heap.size, i, none⟩ = false := fun i => by rw [World.frozen?_of_block hblk]; simp [World.frozen?_alloc_at]
  simp at hz
  have HR := hide hr
  have HTo := hide ((Touched.alloc w rb zlev).trans ht)
  clear hr ht hblk
  go_wp2_with fail
  refine bodyPost_ret (v := .agg #[.int .i64 0, .string ⟨#[]⟩, .slice none 0 0]) (by simp [results, Tryd.results13, go_sem, d4, d5, d6]) rfl ?_
  refine ⟨0, ⟨#[]⟩, none, 0, 0, k + 1, 0, a, rfl, ?_, by have := HK.out; omega, k2', ?_, fun _ => ⟨rfl, .zero, rfl, by have := HK.out; simp [Lv.nodes]; omega, fun q hq => by cases hq⟩⟩
  · exact ((HR.out.setOther (b := ⟨w.heap.size, 0, none⟩) (by show w.heap.size ≠ rb; omega) _).setOther (b := ⟨w.heap.size, 1, none⟩) (by show w.heap.size ≠ rb; omega) _).setOther (b := ⟨w.heap.size, 2, none⟩) (by show w.heap.size ≠ rb; omega) _
  · exact ((HTo.out.setNew (a := ⟨w.heap.size, 0, none⟩) (Nat.le_refl _) _).setNew (a := ⟨w.heap.size, 1, none⟩) (Nat.le_refl _) _).setNew (a := ⟨w.heap.size, 2, none⟩) (Nat.le_refl _) _

end Go.Proofs.YtpdoegjddiaaoaaDoor
