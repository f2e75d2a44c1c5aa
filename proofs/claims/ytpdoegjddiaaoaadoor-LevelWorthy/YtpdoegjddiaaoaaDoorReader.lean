/- The reader: its memory, and the contracts of isName, fail, next, take. -/
import Derived.Test.YtpdoegjddiaaoaaDoorToken
import Derived.Test.YtpdoegjddiaaoaaDoorGates
namespace Go.Proofs.YtpdoegjddiaaoaaDoor
open Go.RowKit

/-- A reader: its text, its place, its fault. -/
def RdAt (w : World) (rb : Nat) (s : ByteArray) (p code a : Nat) : Prop := w.heap[rb]? = some (.cells #[.string s, .int .i64 (p : Nat), .int .i64 (code : Nat), .int .i64 (a : Nat)] 47 (0, 0))

section
variable {w w' : World} {rb : Nat} {s : ByteArray} {p code a : Nat}
theorem RdAt.lt (h : RdAt w rb s p code a) : rb < w.heap.size := (Array.getElem?_eq_some_iff.1 h).1
theorem RdAt.c0 (h : RdAt w rb s p code a) : w.cell? ⟨rb, 0, none⟩ = some (.string s) := by unfold RdAt at h; simp [World.cell?, h]
theorem RdAt.c1 (h : RdAt w rb s p code a) : w.cell? ⟨rb, 1, none⟩ = some (.int .i64 (p : Nat)) := by unfold RdAt at h; simp [World.cell?, h]
theorem RdAt.c2 (h : RdAt w rb s p code a) : w.cell? ⟨rb, 2, none⟩ = some (.int .i64 (code : Nat)) := by unfold RdAt at h; simp [World.cell?, h]
theorem RdAt.c3 (h : RdAt w rb s p code a) : w.cell? ⟨rb, 3, none⟩ = some (.int .i64 (a : Nat)) := by unfold RdAt at h; simp [World.cell?, h]
theorem RdAt.f (h : RdAt w rb s p code a) (i : Nat) : w.frozen? ⟨rb, i, none⟩ = false := by unfold RdAt at h; simp [World.frozen?, h]
theorem RdAt.setP (h : RdAt w rb s p code a) (q : Nat) : RdAt (w.setCell ⟨rb, 1, none⟩ (.int .i64 (q : Nat))) rb s q code a := by
  unfold RdAt at *; simp [World.setCell, Array.getElem?_modify, h]
theorem RdAt.setF (h : RdAt w rb s p code a) (c b : Nat) : RdAt ((w.setCell ⟨rb, 2, none⟩ (.int .i64 (c : Nat))).setCell ⟨rb, 3, none⟩ (.int .i64 (b : Nat))) rb s p c b := by
  unfold RdAt at *; simp [World.setCell, Array.getElem?_modify, h]
theorem RdAt.kept {row : Option Nat} (h : RdAt w rb s p code a) (hg : w.grownBy w' row) (hne : some rb ≠ row) : RdAt w' rb s p code a := by
  have hlt := h.lt
  unfold RdAt at *
  rw [hg.block rb hlt hne]; exact h
theorem RdAt.alloc (h : RdAt w rb s p code a) (o : Obj) : RdAt (w.alloc o) rb s p code a := h.kept (World.grownBy_alloc _ _ none) (by simp)
theorem RdAt.setOther (h : RdAt w rb s p code a) {b : Addr} (hb : b.block ≠ rb) (u : Value) : RdAt (w.setCell b u) rb s p code a := by
  unfold RdAt at *; rw [Below.heap_setCell _ _ _ _ (by omega)]; exact h
end

theorem Touched.set (w : World) (m : Nat) {a : Addr} (ha : a.block = m) (u : Value) : Touched w m (w.setCell a u) :=
  ⟨rfl, rfl, rfl, by simp [World.setCell], fun k _ hne => Below.heap_setCell _ _ _ _ (fun e => hne (by rw [e, ha]))⟩

theorem sameLit (t : ByteArray) (l : List UInt8) : (t.toList == l) = decide (t = ⟨l.toArray⟩) := by
  rw [Bool.eq_iff_iff, beq_iff_eq, decide_eq_true_eq, ByteArray.toList_eq]
  constructor
  · intro h
    exact WideShapes.bytes_inj (by rw [h])
  · rintro rfl; rfl
theorem sameLit_pos {t : ByteArray} {l : List UInt8} (h : t = ⟨l.toArray⟩) : (t.toList == l) = true := by rw [sameLit]; simp [h]
theorem sameLit_neg {t : ByteArray} {l : List UInt8} (h : t ≠ ⟨l.toArray⟩) : (t.toList == l) = false := by rw [sameLit]; simp [h]

def isNameB (t : ByteArray) : Bool := decide (t ≠ ⟨#[]⟩) && nameB (at_ t 0) true

theorem emptyBeq (t : ByteArray) : (t.toList == (⟨#[]⟩ : ByteArray).toList) = decide (t = ⟨#[]⟩) := sameStr t ⟨#[]⟩

set_option maxHeartbeats 1000000 in
theorem isName_calls (t : ByteArray) (w : World) (ht : t.size ≤ 20000) : Calls Tryd.prog 27 #[.string t] w fun e w' => e = .returned (.bool (isNameB t)) ∧ w' = w := by
  by_cases h0 : t = ⟨#[]⟩
  · subst h0
    have HE : Hid (isNameB ⟨#[]⟩ = false) := by simp [Hid, isNameB]
    go_enter Tryd.func27, Tryd.ntmps27
    go_wp2_with fail
    go_ret
    rw [HE.out]
    exact ⟨rfl, rfl⟩
  · have hb : (t.toList == ([] : List UInt8)) = false := by
      have := sameStr_neg (a := t) (b := ⟨#[]⟩) h0
      simpa using this
    have hlt : 0 < t.size := by
      rcases Nat.eq_zero_or_pos t.size with h | h
      · exact absurd (by cases t; rename_i d; simp [ByteArray.size] at h; rw [h]) h0
      · exact h
    have HE : Hid (isNameB t = nameB (t[0]).toNat true) := by simp [Hid, isNameB, h0, at_, hlt]
    have HN := hide (fun W => nameByte_calls (t[0]).toNat true W (t[0]).toNat_lt)
    have HL := hide hlt
    go_enter Tryd.func27, Tryd.ntmps27
    go_wp2_with (go_at_call 46; refine (HN.out _).mono ?_; rintro e w' ⟨rfl, rfl⟩)
    go_ret
    rw [HE.out]
    exact ⟨rfl, rfl⟩

set_option maxHeartbeats 1000000 in
theorem fail_zero (rb : Nat) (s : ByteArray) (p a b : Nat) (w : World) (h : RdAt w rb s p 0 a) : Calls Tryd.prog 29 #[.pointer (some ⟨rb, 0, none⟩), .int .i64 (b : Nat)] w fun e w' => e = .returned (.tuple #[]) ∧ RdAt w' rb s p 1 b ∧ Touched w rb w' := by
  have c2 := h.c2
  have c3 := h.c3
  have f2 := h.f 2
  have f3 := h.f 3
  have H := hide h
  clear h
  go_enter Tryd.func29, Tryd.ntmps29
  go_wp2_with fail
  go_end0
  exact ⟨rfl, H.out.setF 1 b, (Touched.set w rb (a := ⟨rb, 2, none⟩) rfl _).trans (Touched.set _ rb (a := ⟨rb, 3, none⟩) rfl _)⟩

set_option maxHeartbeats 1000000 in
theorem fail_not (rb : Nat) (s : ByteArray) (p code a b : Nat) (w : World) (hc : code ≠ 0) (h : RdAt w rb s p code a) : Calls Tryd.prog 29 #[.pointer (some ⟨rb, 0, none⟩), .int .i64 (b : Nat)] w fun e w' => e = .returned (.tuple #[]) ∧ w' = w := by
  have c2 := h.c2
  have e1 : ((code : Int) == 0) = false := by simp; omega
  clear h hc
  go_enter Tryd.func29, Tryd.ntmps29
  go_wp2_with fail
  go_end0
  exact ⟨rfl, rfl⟩

theorem ne_empty {t : ByteArray} (h : t ≠ ⟨#[]⟩) : (t.toList == ([] : List UInt8)) = false := by
  have := sameStr_neg (a := t) (b := ⟨#[]⟩) h
  simpa using this

set_option maxHeartbeats 1000000 in
theorem next_calls (rb : Nat) (s : ByteArray) (p a : Nat) (w : World) (hs : s.size ≤ 20000) (hp : p ≤ s.size) (h : RdAt w rb s p 0 a) (ht : (tok s p).t ≠ ⟨#[]⟩) :
    Calls Tryd.prog 28 #[.pointer (some ⟨rb, 0, none⟩)] w fun e w' => e = .returned (.string (tok s p).t) ∧ RdAt w' rb s ((tok s p).at_ + (tok s p).t.size) 0 a ∧ Touched w rb w' := by
  have HT := hide (token_calls s p rb w hs hp h.c0 h.c1)
  obtain ⟨k1, k2, k3, k4⟩ := tok_facts hp
  have hok : (tok s p).ok = true := by
    cases e : (tok s p).ok
    · exact absurd (k4 e) ht
    · rfl
  rw [hok] at HT
  have hb := ne_empty ht
  have c1 := h.c1
  have c2 := h.c2
  have f1 := h.f 1
  have H := hide h
  clear h ht k4 hok
  generalize (tok s p).t = t at *
  generalize (tok s p).at_ = k at *
  go_enter Tryd.func28, Tryd.ntmps28
  go_wp2_with (go_at_call 26; refine HT.out.mono ?_; rintro e w' ⟨rfl, rfl⟩)
  go_ret
  exact ⟨rfl, H.out.setP _, Touched.set _ rb (a := ⟨rb, 1, none⟩) rfl _⟩

set_option maxHeartbeats 1000000 in
theorem take_good (rb : Nat) (s : ByteArray) (p a : Nat) (w : World) (hs : s.size ≤ 20000) (hp : p ≤ s.size) (h : RdAt w rb s p 0 a) (ht : (tok s p).t = ⟨#[41]⟩) :
    Calls Tryd.prog 30 #[.pointer (some ⟨rb, 0, none⟩), .string ⟨#[41]⟩] w fun e w' => e = .returned (.tuple #[]) ∧ RdAt w' rb s ((tok s p).at_ + 1) 0 a ∧ Touched w rb w' := by
  have HT := hide (token_calls s p rb w hs hp h.c0 h.c1)
  obtain ⟨k1, k2, k3, k4⟩ := tok_facts hp
  have hok : (tok s p).ok = true := by
    cases e : (tok s p).ok
    · exact absurd (k4 e) (by rw [ht]; intro e; cases e)
    · rfl
  rw [hok, ht] at HT
  rw [ht] at k2
  have hk2 : (tok s p).at_ + 1 ≤ s.size := k2
  have c1 := h.c1
  have c2 := h.c2
  have f1 := h.f 1
  have H := hide h
  clear h ht k4 hok k2 k3
  generalize (tok s p).at_ = k at *
  go_enter Tryd.func30, Tryd.ntmps30
  go_wp2_with (go_at_call 26; refine HT.out.mono ?_; rintro e w' ⟨rfl, rfl⟩)
  go_end0
  exact ⟨rfl, H.out.setP (k + 1), Touched.set _ rb (a := ⟨rb, 1, none⟩) rfl _⟩

set_option maxHeartbeats 1000000 in
theorem take_bad (rb : Nat) (s : ByteArray) (p a : Nat) (w : World) (hs : s.size ≤ 20000) (hp : p ≤ s.size) (h : RdAt w rb s p 0 a) (ht : (tok s p).t ≠ ⟨#[41]⟩) :
    Calls Tryd.prog 30 #[.pointer (some ⟨rb, 0, none⟩), .string ⟨#[41]⟩] w fun e w' => e = .returned (.tuple #[]) ∧ RdAt w' rb s p 1 (tok s p).at_ ∧ Touched w rb w' := by
  have HT := hide (token_calls s p rb w hs hp h.c0 h.c1)
  have hb := sameLit_neg (l := [41]) ht
  have HF := hide (fun b => fail_zero rb s p a b w h)
  clear h ht
  generalize (tok s p).t = t at *
  generalize (tok s p).at_ = k at *
  cases hok : (tok s p).ok with
  | true =>
    rw [hok] at HT
    clear hok
    go_enter Tryd.func30, Tryd.ntmps30
    go_wp2_with (first
      | (go_at_call 26; refine HT.out.mono ?_; rintro e w' ⟨rfl, rfl⟩)
      | (go_at_call 29; refine (HF.out _).mono ?_; rintro e w2 ⟨rfl, hr, ht⟩; have HR := hide hr; have HTo := hide ht; have c2 := hr.c2; clear hr ht))
    go_end0
    exact ⟨rfl, HR.out, HTo.out⟩
  | false =>
    rw [hok] at HT
    clear hok
    go_enter Tryd.func30, Tryd.ntmps30
    go_wp2_with (first
      | (go_at_call 26; refine HT.out.mono ?_; rintro e w' ⟨rfl, rfl⟩)
      | (go_at_call 29; refine (HF.out _).mono ?_; rintro e w2 ⟨rfl, hr, ht⟩; have HR := hide hr; have HTo := hide ht; have c2 := hr.c2; clear hr ht))
    go_end0
    exact ⟨rfl, HR.out, HTo.out⟩

set_option maxHeartbeats 1000000 in
theorem take_not (rb : Nat) (s : ByteArray) (p code a : Nat) (w : World) (hs : s.size ≤ 20000) (hp : p ≤ s.size) (hc : code ≠ 0) (h : RdAt w rb s p code a) :
    Calls Tryd.prog 30 #[.pointer (some ⟨rb, 0, none⟩), .string ⟨#[41]⟩] w fun e w' => e = .returned (.tuple #[]) ∧ w' = w := by
  have HT := hide (token_calls s p rb w hs hp h.c0 h.c1)
  have HF := hide (fun b => fail_not rb s p code a b w hc h)
  have c2 := h.c2
  have e1 : ((code : Int) == 0) = false := by simp; omega
  clear h hc
  generalize (tok s p).t = t at *
  generalize (tok s p).at_ = k at *
  generalize (tok s p).ok = ok at *
  by_cases ht : t = ⟨#[41]⟩
  · have hb := sameLit_pos (l := [41]) ht
    have H := hide ht
    clear ht
    cases ok <;>
    (go_enter Tryd.func30, Tryd.ntmps30
     go_wp2_with (first
      | (go_at_call 26; refine HT.out.mono ?_; rintro e w' ⟨rfl, rfl⟩)
      | (go_at_call 29; refine (HF.out _).mono ?_; rintro e w2 ⟨rfl, rfl⟩))
     go_end0
     exact ⟨rfl, rfl⟩)
  · have hb := sameLit_neg (l := [41]) ht
    clear ht
    cases ok <;>
    (go_enter Tryd.func30, Tryd.ntmps30
     go_wp2_with (first
      | (go_at_call 26; refine HT.out.mono ?_; rintro e w' ⟨rfl, rfl⟩)
      | (go_at_call 29; refine (HF.out _).mono ?_; rintro e w2 ⟨rfl, rfl⟩))
     go_end0
     exact ⟨rfl, rfl⟩)

end Go.Proofs.YtpdoegjddiaaoaaDoor
