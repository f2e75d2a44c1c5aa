/- The document's reader: what text Reader says of it. -/
import Derived.Test.YtjlibnijecdgcaaGreatDoorTokName
import Derived.Test.YtjlibnijecdgcaaGreatDoorTokenDoc
import Derived.Test.YtjlibnijecdgcaaGreatDoorParse
import Derived.Test.YtjlibnijecdgcaaGreatDoorExact
import Derived.Deep.RegionLaw

/- The reader: its memory, and the contracts of isName, fail, next, take. -/
namespace Go.Proofs.YtjlibnijecdgcaaGreatDoor
open Go.RowKit

/-- A reader: its text, its place, its fault. -/
def RdAt (w : World) (rb : Nat) (s : ByteArray) (p code a : Nat) : Prop := w.heap[rb]? = some (.cells #[.string s, .int .i64 (p : Nat), .int .i64 (code : Nat), .int .i64 (a : Nat)] 80 (0, 0))

section
variable {w w' : World} {rb : Nat} {s : ByteArray} {p code a : Nat}
theorem RdAt.lt (h : RdAt w rb s p code a) : rb < w.heap.size := (Array.getElem?_eq_some_iff.1 h).1
theorem RdAt.c0 (h : RdAt w rb s p code a) : w.cell? ⟨rb, 0, none⟩ = some (.string s) := by unfold RdAt at h; simp [World.cell?, h]
theorem RdAt.c1 (h : RdAt w rb s p code a) : w.cell? ⟨rb, 1, none⟩ = some (.int .i64 (p : Nat)) := by unfold RdAt at h; simp [World.cell?, h]
theorem RdAt.c2 (h : RdAt w rb s p code a) : w.cell? ⟨rb, 2, none⟩ = some (.int .i64 (code : Nat)) := by unfold RdAt at h; simp [World.cell?, h]
theorem RdAt.c3 (h : RdAt w rb s p code a) : w.cell? ⟨rb, 3, none⟩ = some (.int .i64 (a : Nat)) := by unfold RdAt at h; simp [World.cell?, h]
theorem RdAt.f (h : RdAt w rb s p code a) (i : Nat) : w.frozen? ⟨rb, i, none⟩ = false := by unfold RdAt at h; simp [World.frozen?, h]
theorem RdAt.setP (h : RdAt w rb s p code a) (q : Nat) : RdAt (w.setCell ⟨rb, 1, none⟩ (.int .i64 (q : Nat))) rb s q code a := by
  unfold RdAt at *; simp [World.setCell, Array.getElem?_modify, h]
theorem RdAt.setF (h : RdAt w rb s p code a) (c b : Nat) : RdAt ((w.setCell ⟨rb, 2, none⟩ (.int .i64 (c : Nat))).setCell ⟨rb, 3, none⟩ (.int .i64 (b : Nat))) rb s p c b := by
  unfold RdAt at *; simp [World.setCell, Array.getElem?_modify, h]
theorem RdAt.kept {row : Option Nat} (h : RdAt w rb s p code a) (hg : w.grownBy w' row) (hne : some rb ≠ row) : RdAt w' rb s p code a := by
  have hlt := h.lt
  unfold RdAt at *
  rw [hg.block rb hlt hne]; exact h
theorem RdAt.alloc (h : RdAt w rb s p code a) (o : Obj) : RdAt (w.alloc o) rb s p code a := h.kept (World.grownBy_alloc _ _ none) (by simp)
theorem RdAt.setOther (h : RdAt w rb s p code a) {b : Addr} (hb : b.block ≠ rb) (u : Value) : RdAt (w.setCell b u) rb s p code a := by
  unfold RdAt at *; rw [Below.heap_setCell _ _ _ _ (by omega)]; exact h
end

set_option maxHeartbeats 1000000 in
theorem isName_calls (t : ByteArray) (w : World) (ht : t.size ≤ 200000) : Calls Tryz.prog 79 #[.string t] w fun e w' => e = .returned (.bool (isNameB t)) ∧ w' = w := by
  by_cases h0 : t = ⟨#[]⟩
  · subst h0
    have HE : Hid (isNameB ⟨#[]⟩ = false) := by simp [Hid, isNameB]
    go_enter Tryz.func79, Tryz.ntmps79
    go_wp2_with fail
    go_ret
    rw [HE.out]
    exact ⟨rfl, rfl⟩
  · have hb : (t.toList == ([] : List UInt8)) = false := by
      have := sameStr_neg (a := t) (b := ⟨#[]⟩) h0
      simpa using this
    have hlt : 0 < t.size := by
      rcases Nat.eq_zero_or_pos t.size with h | h
      · exact absurd (by cases t; rename_i d; simp [ByteArray.size] at h; rw [h]) h0
      · exact h
    have HE : Hid (isNameB t = nameB (t[0]).toNat true) := by simp [Hid, isNameB, h0, at_, hlt]
    have HN := hide (fun W => nameByte_calls (t[0]).toNat true W (t[0]).toNat_lt)
    have HL := hide hlt
    go_enter Tryz.func79, Tryz.ntmps79
    go_wp2_with (go_at_call 54; refine (HN.out _).mono ?_; rintro e w' ⟨rfl, rfl⟩)
    go_ret
    rw [HE.out]
    exact ⟨rfl, rfl⟩

set_option maxHeartbeats 1000000 in
theorem fail_zero (rb : Nat) (s : ByteArray) (p a b : Nat) (w : World) (h : RdAt w rb s p 0 a) : Calls Tryz.prog 56 #[.pointer (some ⟨rb, 0, none⟩), .int .i64 (b : Nat)] w fun e w' => e = .returned (.tuple #[]) ∧ RdAt w' rb s p 1 b ∧ Touched w rb w' := by
  have c2 := h.c2
  have c3 := h.c3
  have f2 := h.f 2
  have f3 := h.f 3
  have H := hide h
  clear h
  go_enter Tryz.func56, Tryz.ntmps56
  go_wp2_with fail
  go_end0
  exact ⟨rfl, H.out.setF 1 b, (Touched.set w rb (a := ⟨rb, 2, none⟩) rfl _).trans (Touched.set _ rb (a := ⟨rb, 3, none⟩) rfl _)⟩

set_option maxHeartbeats 1000000 in
theorem fail_not (rb : Nat) (s : ByteArray) (p code a b : Nat) (w : World) (hc : code ≠ 0) (h : RdAt w rb s p code a) : Calls Tryz.prog 56 #[.pointer (some ⟨rb, 0, none⟩), .int .i64 (b : Nat)] w fun e w' => e = .returned (.tuple #[]) ∧ w' = w := by
  have c2 := h.c2
  have e1 : ((code : Int) == 0) = false := by simp; omega
  clear h hc
  go_enter Tryz.func56, Tryz.ntmps56
  go_wp2_with fail
  go_end0
  exact ⟨rfl, rfl⟩

set_option maxHeartbeats 1000000 in
theorem next_calls (rb : Nat) (s : ByteArray) (p a : Nat) (w : World) (hs : s.size ≤ 200000) (hp : p ≤ s.size) (h : RdAt w rb s p 0 a) (ht : (tok s p).t ≠ ⟨#[]⟩) :
    Calls Tryz.prog 57 #[.pointer (some ⟨rb, 0, none⟩)] w fun e w' => e = .returned (.string (tok s p).t) ∧ RdAt w' rb s ((tok s p).at_ + (tok s p).t.size) 0 a ∧ Touched w rb w' := by
  have HT := hide (token_calls s p rb w hs hp h.c0 h.c1)
  obtain ⟨k1, k2, k3, k4⟩ := tok_facts hp
  have hok : (tok s p).ok = true := by
    cases e : (tok s p).ok
    · exact absurd (k4 e) ht
    · rfl
  rw [hok] at HT
  have hb := ne_empty ht
  have c1 := h.c1
  have c2 := h.c2
  have f1 := h.f 1
  have H := hide h
  clear h ht k4 hok
  generalize (tok s p).t = t at *
  generalize (tok s p).at_ = k at *
  go_enter Tryz.func57, Tryz.ntmps57
  go_wp2_with (go_at_call 33; refine HT.out.mono ?_; rintro e w' ⟨rfl, rfl⟩)
  go_ret
  exact ⟨rfl, H.out.setP _, Touched.set _ rb (a := ⟨rb, 1, none⟩) rfl _⟩

set_option maxHeartbeats 1000000 in
theorem take_good (rb : Nat) (s : ByteArray) (p a : Nat) (w : World) (hs : s.size ≤ 200000) (hp : p ≤ s.size) (h : RdAt w rb s p 0 a) (ht : (tok s p).t = ⟨#[41]⟩) :
    Calls Tryz.prog 55 #[.pointer (some ⟨rb, 0, none⟩), .string ⟨#[41]⟩] w fun e w' => e = .returned (.tuple #[]) ∧ RdAt w' rb s ((tok s p).at_ + 1) 0 a ∧ Touched w rb w' := by
  have HT := hide (token_calls s p rb w hs hp h.c0 h.c1)
  obtain ⟨k1, k2, k3, k4⟩ := tok_facts hp
  have hok : (tok s p).ok = true := by
    cases e : (tok s p).ok
    · exact absurd (k4 e) (by rw [ht]; intro e; cases e)
    · rfl
  rw [hok, ht] at HT
  rw [ht] at k2
  have hk2 : (tok s p).at_ + 1 ≤ s.size := k2
  have c1 := h.c1
  have c2 := h.c2
  have f1 := h.f 1
  have H := hide h
  clear h ht k4 hok k2 k3
  generalize (tok s p).at_ = k at *
  go_enter Tryz.func55, Tryz.ntmps55
  go_wp2_with (go_at_call 33; refine HT.out.mono ?_; rintro e w' ⟨rfl, rfl⟩)
  go_end0
  exact ⟨rfl, H.out.setP (k + 1), Touched.set _ rb (a := ⟨rb, 1, none⟩) rfl _⟩

set_option maxHeartbeats 1000000 in
theorem take_bad (rb : Nat) (s : ByteArray) (p a : Nat) (w : World) (hs : s.size ≤ 200000) (hp : p ≤ s.size) (h : RdAt w rb s p 0 a) (ht : (tok s p).t ≠ ⟨#[41]⟩) :
    Calls Tryz.prog 55 #[.pointer (some ⟨rb, 0, none⟩), .string ⟨#[41]⟩] w fun e w' => e = .returned (.tuple #[]) ∧ RdAt w' rb s p 1 (tok s p).at_ ∧ Touched w rb w' := by
  have HT := hide (token_calls s p rb w hs hp h.c0 h.c1)
  have hb := sameLit_neg (l := [41]) ht
  have HF := hide (fun b => fail_zero rb s p a b w h)
  clear h ht
  generalize (tok s p).t = t at *
  generalize (tok s p).at_ = k at *
  cases hok : (tok s p).ok with
  | true =>
    rw [hok] at HT
    clear hok
    go_enter Tryz.func55, Tryz.ntmps55
    go_wp2_with (first
      | (go_at_call 33; refine HT.out.mono ?_; rintro e w' ⟨rfl, rfl⟩)
      | (go_at_call 56; refine (HF.out _).mono ?_; rintro e w2 ⟨rfl, hr, ht⟩; have HR := hide hr; have HTo := hide ht; have c2 := hr.c2; clear hr ht))
    go_end0
    exact ⟨rfl, HR.out, HTo.out⟩
  | false =>
    rw [hok] at HT
    clear hok
    go_enter Tryz.func55, Tryz.ntmps55
    go_wp2_with (first
      | (go_at_call 33; refine HT.out.mono ?_; rintro e w' ⟨rfl, rfl⟩)
      | (go_at_call 56; refine (HF.out _).mono ?_; rintro e w2 ⟨rfl, hr, ht⟩; have HR := hide hr; have HTo := hide ht; have c2 := hr.c2; clear hr ht))
    go_end0
    exact ⟨rfl, HR.out, HTo.out⟩

set_option maxHeartbeats 1000000 in
theorem take_not (rb : Nat) (s : ByteArray) (p code a : Nat) (w : World) (hs : s.size ≤ 200000) (hp : p ≤ s.size) (hc : code ≠ 0) (h : RdAt w rb s p code a) :
    Calls Tryz.prog 55 #[.pointer (some ⟨rb, 0, none⟩), .string ⟨#[41]⟩] w fun e w' => e = .returned (.tuple #[]) ∧ w' = w := by
  have HT := hide (token_calls s p rb w hs hp h.c0 h.c1)
  have HF := hide (fun b => fail_not rb s p code a b w hc h)
  have c2 := h.c2
  have e1 : ((code : Int) == 0) = false := by simp; omega
  clear h hc
  generalize (tok s p).t = t at *
  generalize (tok s p).at_ = k at *
  generalize (tok s p).ok = ok at *
  by_cases ht : t = ⟨#[41]⟩
  · have hb := sameLit_pos (l := [41]) ht
    have H := hide ht
    clear ht
    cases ok <;>
    (go_enter Tryz.func55, Tryz.ntmps55
     go_wp2_with (first
      | (go_at_call 33; refine HT.out.mono ?_; rintro e w' ⟨rfl, rfl⟩)
      | (go_at_call 56; refine (HF.out _).mono ?_; rintro e w2 ⟨rfl, rfl⟩))
     go_end0
     exact ⟨rfl, rfl⟩)
  · have hb := sameLit_neg (l := [41]) ht
    clear ht
    cases ok <;>
    (go_enter Tryz.func55, Tryz.ntmps55
     go_wp2_with (first
      | (go_at_call 33; refine HT.out.mono ?_; rintro e w' ⟨rfl, rfl⟩)
      | (go_at_call 56; refine (HF.out _).mono ?_; rintro e w2 ⟨rfl, rfl⟩))
     go_end0
     exact ⟨rfl, rfl⟩)

end Go.Proofs.YtjlibnijecdgcaaGreatDoor

/- The document's reader: what text Done says of it. -/
/- The contract of done, and of fail whatever went before. -/
namespace Go.Proofs.YtjlibnijecdgcaaGreatDoor
open Go.RowKit

theorem fail_any (rb : Nat) (s : ByteArray) (p code a b : Nat) (w : World) (h : RdAt w rb s p code a) : Calls Tryz.prog 56 #[.pointer (some ⟨rb, 0, none⟩), .int .i64 (b : Nat)] w fun e w' => ∃ c' a' : Nat, e = .returned (.tuple #[]) ∧ RdAt w' rb s p c' a' ∧ (c' ≠ 0 ∧ ((code ≠ 0 ∧ c' = code ∧ a' = a) ∨ (code = 0 ∧ c' = 1 ∧ a' = b))) ∧ Touched w rb w' := by
  by_cases hc : code = 0
  · subst hc
    exact (fail_zero rb s p a b w h).mono fun e w' ⟨he, hr, ht⟩ => ⟨1, b, he, hr, ⟨by omega, .inr ⟨rfl, rfl, rfl⟩⟩, ht⟩
  · exact (fail_not rb s p code a b w hc h).mono fun e w' ⟨he, hw⟩ => ⟨code, a, he, by rw [hw]; exact h, ⟨hc, .inl ⟨hc, rfl, rfl⟩⟩, by rw [hw]; exact Touched.refl _ _⟩

end Go.Proofs.YtjlibnijecdgcaaGreatDoor

/- The document's reader: what text LevelEasy says of it. -/
/- A level that is read: where it lies; the contract of level where a fault stands already, and at a 0. -/
namespace Go.Proofs.YtjlibnijecdgcaaGreatDoor
open Go.RowKit

/-- What a reading of a level leaves: a value of a level's shape, the reader further on; where there is no fault, a level that stands there, no greater than what was read; else the fault's place. -/
def LevelPost (w : World) (rb : Nat) (s : ByteArray) (p code a : Nat) (e : Ending) (w' : World) : Prop :=
  ∃ (k : Int) (nm : ByteArray) (A : Option Addr) (n cap p' c' a' : Nat), e = .returned (.agg #[.int .i64 k, .string nm, .slice A n cap]) ∧ RdAt w' rb s p' c' a' ∧ p ≤ p' ∧ p' ≤ s.size ∧ Touched w rb w' ∧
    (c' = 0 → code = 0 ∧ ∃ l : LvB, InAbove w' w.heap.size l (.agg #[.int .i64 k, .string nm, .slice A n cap]) ∧ l.nodes ≤ p' - p ∧ Reads s l p p') ∧
    (c' ≠ 0 → (code ≠ 0 ∧ c' = code ∧ a' = a) ∨ (code = 0 ∧ c' = 1 ∧ Fails s p a'))

set_option maxHeartbeats 1000000 in
theorem level_not (rb : Nat) (s : ByteArray) (p code a : Nat) (w : World) (hs : s.size ≤ 200000) (hp : p ≤ s.size) (hc : code ≠ 0) (h : RdAt w rb s p code a) :
    Calls Tryz.prog 80 #[.pointer (some ⟨rb, 0, none⟩)] w fun e w' => LevelPost w rb s p code a e w' := by
  have hal := h.alloc zlev
  have hrb := h.lt
  have HT := hide (token_calls s p rb _ hs hp hal.c0 hal.c1)
  obtain ⟨k1, k2, k3, k4⟩ := tok_facts hp
  have HN := hide (fun W => isName_calls (tok s p).t W (by omega))
  have c2 := h.c2
  have HR := hide hal
  have e1 : ((code : Int) == 0) = false := by simp; omega
  have HC := hide hc
  clear h hal hc k1 k2 k3 k4
  generalize (tok s p).t = t at *
  generalize (tok s p).at_ = k at *
  generalize (tok s p).ok = ok at *
  go_enter Tryz.func80, Tryz.ntmps80
  go_wp2_with (first
    | (go_at_call 33; refine HT.out.mono ?_; rintro e w' ⟨rfl, rfl⟩)
    | (go_at_call 79; refine (HN.out _).mono ?_; rintro e w' ⟨rfl, rfl⟩))
  refine bodyPost_ret (v := .agg #[.int .i64 0, .string ⟨#[]⟩, .slice none 0 0]) (by simp [results, Tryz.results80, go_sem]) rfl ?_
  exact ⟨0, ⟨#[]⟩, none, 0, 0, p, code, a, rfl, HR.out, Nat.le_refl _, hp, Touched.alloc _ _ _, fun h => absurd h HC.out, fun _ => .inl ⟨HC.out, rfl, rfl⟩⟩

set_option maxHeartbeats 1000000 in
theorem level_zero (rb : Nat) (s : ByteArray) (p a : Nat) (w : World) (hs : s.size ≤ 200000) (hp : p ≤ s.size) (h : RdAt w rb s p 0 a) (ht : (tok s p).t = ⟨#[48]⟩) :
    Calls Tryz.prog 80 #[.pointer (some ⟨rb, 0, none⟩)] w fun e w' => LevelPost w rb s p 0 a e w' := by
  have hal := h.alloc zlev
  have hrb := h.lt
  have HT := hide (token_calls s p rb _ hs hp hal.c0 hal.c1)
  obtain ⟨k1, k2, k3, k4⟩ := tok_facts hp
  have HN := hide (fun W => isName_calls (tok s p).t W (by omega))
  have HX := hide (next_calls rb s p a _ hs hp hal (by rw [ht]; intro e; cases e))
  have HZ := hide (tok_zero hp ht)
  rw [ht] at HT HN k2 HX
  have k2' : (tok s p).at_ + 1 ≤ s.size := k2
  have HK := hide k1
  have c2 := h.c2
  clear h hal k1 k2 k3 k4 ht
  generalize (tok s p).at_ = k at *
  generalize (tok s p).ok = ok at *
  go_enter Tryz.func80, Tryz.ntmps80
  go_wp2_with (first
    | (go_at_call 33; refine HT.out.mono ?_; rintro e w' ⟨rfl, rfl⟩)
    | (go_at_call 79; refine (HN.out _).mono ?_; rintro e w' ⟨rfl, rfl⟩)
    | (go_at_call 57; refine HX.out.mono ?_))
  rintro e w' ⟨rfl, hr, ht⟩
  have hz := ht.size
  have hblk := ht.block w.heap.size (by simp) (by simp; omega)
  have d4 : w'.cell? ⟨w.heap.size, 0, none⟩ = some (.int .i64 0) := by rw [World.cell?_of_block hblk]; simp
  have d5 : w'.cell? ⟨w.heap.size, 1, none⟩ = some (.string ⟨#[]⟩) := by rw [World.cell?_of_block hblk]; simp
  have d6 : w'.cell? ⟨w.heap.size, 2, none⟩ = some (.slice none 0 0) := by rw [World.cell?_of_block hblk]; simp
  have f4 : ∀ i, w'.frozen? ⟨w.heap.size, i, none⟩ = false := fun i => by rw [World.frozen?_of_block hblk]; simp [World.frozen?_alloc_at]
  simp at hz
  have HR := hide hr
  have HTo := hide ((Touched.alloc w rb zlev).trans ht)
  clear hr ht hblk
  go_wp2_with fail
  refine bodyPost_ret (v := .agg #[.int .i64 0, .string ⟨#[]⟩, .slice none 0 0]) (by simp [results, Tryz.results80, go_sem, d4, d5, d6]) rfl ?_
  refine ⟨0, ⟨#[]⟩, none, 0, 0, k + 1, 0, a, rfl, ?_, by have := HK.out; omega, k2', ?_, fun _ => ⟨rfl, .zero, rfl, by have := HK.out; simp [Lv.nodes]; omega, HZ.out⟩, fun h => absurd rfl h⟩
  · exact ((HR.out.setOther (b := ⟨w.heap.size, 0, none⟩) (by show w.heap.size ≠ rb; omega) _).setOther (b := ⟨w.heap.size, 1, none⟩) (by show w.heap.size ≠ rb; omega) _).setOther (b := ⟨w.heap.size, 2, none⟩) (by show w.heap.size ≠ rb; omega) _
  · exact ((HTo.out.setNew (a := ⟨w.heap.size, 0, none⟩) (Nat.le_refl _) _).setNew (a := ⟨w.heap.size, 1, none⟩) (Nat.le_refl _) _).setNew (a := ⟨w.heap.size, 2, none⟩) (Nat.le_refl _) _

end Go.Proofs.YtjlibnijecdgcaaGreatDoor

/- The document's reader: what text LevelWord says of it. -/
/- The contract of level at a name, at a token that cannot stand there, and at a bracket with another word. -/
namespace Go.Proofs.YtjlibnijecdgcaaGreatDoor
open Go.RowKit

set_option maxHeartbeats 1000000 in
theorem level_name (rb : Nat) (s : ByteArray) (p a : Nat) (w : World) (hs : s.size ≤ 200000) (hp : p ≤ s.size) (h : RdAt w rb s p 0 a) (h0 : (tok s p).t ≠ ⟨#[48]⟩) (hn : isNameB (tok s p).t = true) :
    Calls Tryz.prog 80 #[.pointer (some ⟨rb, 0, none⟩)] w fun e w' => LevelPost w rb s p 0 a e w' := by
  have HNm := hide (tok_word hp hn)
  have hal := h.alloc zlev
  have hrb := h.lt
  have HT := hide (token_calls s p rb _ hs hp hal.c0 hal.c1)
  obtain ⟨k1, k2, k3, k4⟩ := tok_facts hp
  have HN := hide (fun W => isName_calls (tok s p).t W (by omega))
  have HX := hide (next_calls rb s p a _ hs hp hal (isNameB_ne hn))
  have hps := size_pos (isNameB_ne hn)
  have hb := sameLit_neg (l := [48]) h0
  rw [hn] at HN
  have HK := hide (And.intro k1 (And.intro k2 (And.intro k3 hps)))
  have c2 := h.c2
  clear h hal k1 k2 k3 k4 h0 hn hps
  generalize (tok s p).t = t at *
  generalize (tok s p).at_ = k at *
  generalize (tok s p).ok = ok at *
  go_enter Tryz.func80, Tryz.ntmps80
  go_wp2_with (first
    | (go_at_call 33; refine HT.out.mono ?_; rintro e w' ⟨rfl, rfl⟩)
    | (go_at_call 79; refine (HN.out _).mono ?_; rintro e w' ⟨rfl, rfl⟩)
    | (go_at_call 57; refine HX.out.mono ?_))
  rintro e w' ⟨rfl, hr, ht⟩
  have hz := ht.size
  have hblk := ht.block w.heap.size (by simp) (by simp; omega)
  have d4 : w'.cell? ⟨w.heap.size, 0, none⟩ = some (.int .i64 0) := by rw [World.cell?_of_block hblk]; simp
  have d5 : w'.cell? ⟨w.heap.size, 1, none⟩ = some (.string ⟨#[]⟩) := by rw [World.cell?_of_block hblk]; simp
  have d6 : w'.cell? ⟨w.heap.size, 2, none⟩ = some (.slice none 0 0) := by rw [World.cell?_of_block hblk]; simp
  have f4 : ∀ i, w'.frozen? ⟨w.heap.size, i, none⟩ = false := fun i => by rw [World.frozen?_of_block hblk]; simp [World.frozen?_alloc_at]
  simp at hz
  have HR := hide hr
  have HTo := hide ((Touched.alloc w rb zlev).trans ht)
  clear hr ht hblk
  go_wp2_with fail
  refine bodyPost_ret (v := .agg #[.int .i64 4, .string t, .slice none 0 0]) (by simp [results, Tryz.results80, go_sem, d4, d5, d6]) rfl ?_
  obtain ⟨k1, k2, k3, hps⟩ := HK.out
  refine ⟨4, t, none, 0, 0, k + t.size, 0, a, rfl, ?_, by omega, k2, ?_, fun _ => ⟨rfl, .param t, rfl, by simp [Lv.nodes]; omega, HNm.out⟩, fun h => absurd rfl h⟩
  · exact ((HR.out.setOther (b := ⟨w.heap.size, 0, none⟩) (by show w.heap.size ≠ rb; omega) _).setOther (b := ⟨w.heap.size, 1, none⟩) (by show w.heap.size ≠ rb; omega) _).setOther (b := ⟨w.heap.size, 2, none⟩) (by show w.heap.size ≠ rb; omega) _
  · exact ((HTo.out.setNew (a := ⟨w.heap.size, 0, none⟩) (Nat.le_refl _) _).setNew (a := ⟨w.heap.size, 1, none⟩) (Nat.le_refl _) _).setNew (a := ⟨w.heap.size, 2, none⟩) (Nat.le_refl _) _

set_option maxHeartbeats 1000000 in
theorem level_bad (rb : Nat) (s : ByteArray) (p a : Nat) (w : World) (hs : s.size ≤ 200000) (hp : p ≤ s.size) (h : RdAt w rb s p 0 a) (h0 : (tok s p).t ≠ ⟨#[48]⟩) (hn : isNameB (tok s p).t = false) (h1 : (tok s p).t ≠ ⟨#[40]⟩) :
    Calls Tryz.prog 80 #[.pointer (some ⟨rb, 0, none⟩)] w fun e w' => LevelPost w rb s p 0 a e w' := by
  have hal := h.alloc zlev
  have hrb := h.lt
  have HT := hide (token_calls s p rb _ hs hp hal.c0 hal.c1)
  obtain ⟨k1, k2, k3, k4⟩ := tok_facts hp
  have HN := hide (fun W => isName_calls (tok s p).t W (by omega))
  have HX := hide (fun b => fail_zero rb s p a b _ hal)
  have HFl : Hid (Fails s p (tok s p).at_) := by unfold Hid; rw [tok_place s p hp]; exact Fails.none h0 hn h1
  have hb := sameLit_neg (l := [48]) h0
  have hb1 := sameLit_neg (l := [40]) h1
  rw [hn] at HN
  have c2 := h.c2
  clear h hal k1 k2 k3 k4 h0 hn h1
  generalize (tok s p).t = t at *
  generalize (tok s p).at_ = k at *
  generalize (tok s p).ok = ok at *
  go_enter Tryz.func80, Tryz.ntmps80
  go_wp2_with (first
    | (go_at_call 33; refine HT.out.mono ?_; rintro e w' ⟨rfl, rfl⟩)
    | (go_at_call 79; refine (HN.out _).mono ?_; rintro e w' ⟨rfl, rfl⟩)
    | (go_at_call 56; refine (HX.out _).mono ?_))
  rintro e w' ⟨rfl, hr, ht⟩
  have hz := ht.size
  have hblk := ht.block w.heap.size (by simp) (by simp; omega)
  have d4 : w'.cell? ⟨w.heap.size, 0, none⟩ = some (.int .i64 0) := by rw [World.cell?_of_block hblk]; simp
  have d5 : w'.cell? ⟨w.heap.size, 1, none⟩ = some (.string ⟨#[]⟩) := by rw [World.cell?_of_block hblk]; simp
  have d6 : w'.cell? ⟨w.heap.size, 2, none⟩ = some (.slice none 0 0) := by rw [World.cell?_of_block hblk]; simp
  have f4 : ∀ i, w'.frozen? ⟨w.heap.size, i, none⟩ = false := fun i => by rw [World.frozen?_of_block hblk]; simp [World.frozen?_alloc_at]
  simp at hz
  have HR := hide hr
  have HTo := hide ((Touched.alloc w rb zlev).trans ht)
  clear hr ht hblk
  go_wp2_with fail
  refine bodyPost_ret (v := .agg #[.int .i64 0, .string ⟨#[]⟩, .slice none 0 0]) (by simp [results, Tryz.results80, go_sem, d4, d5, d6]) rfl ?_
  refine ⟨0, ⟨#[]⟩, none, 0, 0, p, 1, k, rfl, ?_, Nat.le_refl _, hp, ?_, fun h => by omega, fun _ => .inr ⟨rfl, rfl, HFl.out⟩⟩
  · exact ((HR.out.setOther (b := ⟨w.heap.size, 0, none⟩) (by show w.heap.size ≠ rb; omega) _).setOther (b := ⟨w.heap.size, 1, none⟩) (by show w.heap.size ≠ rb; omega) _).setOther (b := ⟨w.heap.size, 2, none⟩) (by show w.heap.size ≠ rb; omega) _
  · exact ((HTo.out.setNew (a := ⟨w.heap.size, 0, none⟩) (Nat.le_refl _) _).setNew (a := ⟨w.heap.size, 1, none⟩) (Nat.le_refl _) _).setNew (a := ⟨w.heap.size, 2, none⟩) (Nat.le_refl _) _

set_option maxHeartbeats 1000000 in
theorem level_word (rb : Nat) (s : ByteArray) (p a : Nat) (w : World) (hs : s.size ≤ 200000) (hp : p ≤ s.size) (h : RdAt w rb s p 0 a) (ht : (tok s p).t = ⟨#[40]⟩)
    (h1 : (tok s ((tok s p).at_ + 1)).t ≠ ⟨#[115]⟩) (h2 : (tok s ((tok s p).at_ + 1)).t ≠ ⟨#[109, 97, 120]⟩) (h3 : (tok s ((tok s p).at_ + 1)).t ≠ ⟨#[105, 109, 97, 120]⟩) :
    Calls Tryz.prog 80 #[.pointer (some ⟨rb, 0, none⟩)] w fun e w' => LevelPost w rb s p 0 a e w' := by
  have hal := h.alloc zlev
  have hrb := h.lt
  have HT := hide (token_calls s p rb _ hs hp hal.c0 hal.c1)
  obtain ⟨k1, k2, k3, k4⟩ := tok_facts hp
  have HN := hide (fun W => isName_calls (tok s p).t W (by omega))
  have HX := hide (next_calls rb s p a _ hs hp hal (by rw [ht]; intro e; cases e))
  rw [ht] at HT HN k2 HX
  rw [isNameB_open] at HN
  have k2' : (tok s p).at_ + 1 ≤ s.size := k2
  have HFl : Hid (Fails s p (tok s ((tok s p).at_ + 1)).at_) := by unfold Hid; rw [tok_place s _ k2']; exact Fails.word (tok_open hp ht) h1 h2 h3
  have HX2 : Hid (Calls Tryz.prog 57 #[.pointer (some ⟨rb, 0, none⟩)] (w.alloc zlev) fun e w' => e = .returned (.string ⟨#[40]⟩) ∧ RdAt w' rb s ((tok s p).at_ + 1) 0 a ∧ Touched (w.alloc zlev) rb w') := HX.out
  have HK := hide k1
  have c2 := h.c2
  have HT2 := hide (fun W (hW : RdAt W rb s ((tok s p).at_ + 1) 0 a) => token_calls s ((tok s p).at_ + 1) rb W hs k2' hW.c0 hW.c1)
  have b1 := sameLit_neg (l := [115]) h1
  have b2 := sameLit_neg (l := [109, 97, 120]) h2
  have b3 := sameLit_neg (l := [105, 109, 97, 120]) h3
  clear h hal k1 k2 k3 k4 ht HX h1 h2 h3
  generalize (tok s ((tok s p).at_ + 1)).t = t1 at *
  generalize (tok s ((tok s p).at_ + 1)).at_ = j1 at *
  generalize (tok s ((tok s p).at_ + 1)).ok = o1 at *
  generalize (tok s p).at_ = k at *
  generalize (tok s p).ok = ok at *
  go_enter Tryz.func80, Tryz.ntmps80
  go_wp2_with (first
    | (go_at_call 33; refine HT.out.mono ?_; rintro e w' ⟨rfl, rfl⟩)
    | (go_at_call 79; refine (HN.out _).mono ?_; rintro e w' ⟨rfl, rfl⟩)
    | (go_at_call 57; refine HX2.out.mono ?_))
  rintro e w' ⟨rfl, hr, ht⟩
  have HR := hide hr
  have HTo := hide ht
  have HF := hide (fun b => fail_zero rb s (k + 1) a b w' hr)
  clear hr ht
  go_wp2_with (first
    | (go_at_call 33; refine (HT2.out _ HR.out).mono ?_; rintro e w2 ⟨rfl, rfl⟩)
    | (go_at_call 56; refine (HF.out _).mono ?_))
  rintro e w3 ⟨rfl, hr3, ht3⟩
  have HT3 := hide (HTo.out.trans ht3)
  obtain ⟨d4, d5, d6, f4, hz⟩ := zcells hrb HT3.out
  have HR3 := hide hr3
  clear hr3 ht3
  go_wp2_with fail
  refine bodyPost_ret (v := .agg #[.int .i64 0, .string ⟨#[]⟩, .slice none 0 0]) (by simp [results, Tryz.results80, go_sem, d4, d5, d6]) rfl ?_
  refine ⟨0, ⟨#[]⟩, none, 0, 0, k + 1, 1, j1, rfl, ?_, by have := HK.out; omega, k2', ?_, fun h => by omega, fun _ => .inr ⟨rfl, rfl, HFl.out⟩⟩
  · exact ((HR3.out.setOther (b := ⟨w.heap.size, 0, none⟩) (by show w.heap.size ≠ rb; omega) _).setOther (b := ⟨w.heap.size, 1, none⟩) (by show w.heap.size ≠ rb; omega) _).setOther (b := ⟨w.heap.size, 2, none⟩) (by show w.heap.size ≠ rb; omega) _
  · exact ((((Touched.alloc w rb zlev).trans HT3.out).setNew (a := ⟨w.heap.size, 0, none⟩) (Nat.le_refl _) _).setNew (a := ⟨w.heap.size, 1, none⟩) (Nat.le_refl _) _).setNew (a := ⟨w.heap.size, 2, none⟩) (Nat.le_refl _) _

end Go.Proofs.YtjlibnijecdgcaaGreatDoor
