/- The contracts of the scanner's take and Next, whatever stands there. -/
import Derived.Test.YtmpepnckfghepaaDoorNumber
import Derived.Test.YtmpepnckfghepaaDoorNext
namespace Go.Proofs.YtmpepnckfghepaaDoor
open Go.RowKit

theorem run_digs {s : ByteArray} {a q : Nat} (ha : a ≤ s.size) (hq : runTo digitB s a = q) : Digs (s.extract a q) := by
  have hle := runTo_le digitB s ha
  have hge := runTo_ge digitB s a
  rw [hq] at hle hge
  intro c hc
  obtain ⟨i, hi, rfl⟩ := List.getElem_of_mem hc
  have hsz : (s.extract a q).data.toList.length = q - a := by
    have h1 : (s.extract a q).size = q - a := by rw [ByteArray.size_extract]; omega
    have h2 : (s.extract a q).data.toList.length = (s.extract a q).size := by rw [Array.length_toList]; rfl
    rw [h2, h1]
  rw [hsz] at hi
  have h1 : at_ (s.extract a q) i = at_ s (a + i) := at_extract hle (by omega)
  rw [at_data _ i (by rw [ByteArray.size_extract]; omega)] at h1
  have h2 : digitB (at_ s (a + i)) = true := run_all (f := digitB) _ a (a + i) (by omega) (by have : run digitB s (s.size - a) a = q := hq; rw [this]; omega)
  simp [digitB] at h2
  rw [h1]
  exact h2

/-- Is it a number that may stand behind a sharp? -/
def good (d : ByteArray) : Bool := (numOf d 99999).isSome

abbrev TakeOf (w : World) (sc : Nat) (s : ByteArray) (kd p' : Nat) (e : Ending) (w' : World) : Prop := e = .returned (.int .i64 (kd : Nat)) ∧ ScAt w' sc s p' ∧ Touched w sc w'

set_option maxRecDepth 100000 in
set_option maxHeartbeats 4000000 in
theorem stake_sharp (sc : Nat) (s : ByteArray) (p : Nat) (w : World) (h : ScAt w sc s p) (hs : s.size ≤ 20000) (hp : p < s.size) (ht : Tabs w) (hsc : 5 < sc) (hc : at_ s p = 35) (q : Nat) (hq : digitEnd s p = q) (kd : Nat) (hkd : kd = if good (s.extract (p + 1) q) = true then 5 else 6) :
    Calls Tryd.prog 39 #[.pointer (some ⟨sc, 0, none⟩)] w fun e w' => TakeOf w sc s kd q e w' := by
  have c0 := h.c0
  have c1 := h.c1
  have hlt := h.lt
  have f1 := h.f 1
  have HS := hide h
  have HT := hide ht
  have hat := at_eq hp
  have e0 : (((s[p]'hp).toNat : Int) == 40) = false := by rw [hat, hc]; rfl
  have e1 : (((s[p]'hp).toNat : Int) == 41) = false := by rw [hat, hc]; rfl
  have e2 : (((s[p]'hp).toNat : Int) == 35) = true := by rw [hat, hc]; rfl
  have K60 : Hid (∀ W, Calls Tryd.prog 45 #[.int .u8 ((s[p]'hp).toNat : Nat)] W fun e w' => e = .returned (.bool false) ∧ Below W.heap.size W w') := fun W => by
    have := isDigit_calls (at_ s p) W (at_lt s p)
    have hf : digitB (at_ s p) = false := by rw [hc]; rfl
    rw [hf] at this
    rw [hat]
    exact this
  have hge := digitEnd_ge s p
  have hle := digitEnd_le hp
  have HQ := hide hq
  have HKd := hide hkd
  rw [hq] at hge hle
  clear hat hc h ht hq hkd
  go_enter Tryd.func39, Tryd.ntmps39
  go_wp2_with fail
  go_quiet (fail)
  have HSt := hide (sc_step HS.out nq)
  go_wp2_with (go_at_call 45; refine (K60.out _).mono ?_)
  rintro e w2 ⟨rfl, hb2⟩
  have hS2 := HSt.out.1.below hb2
  have hT2 := HSt.out.2.later hb2
  have K55 := hide (skip_calls 45 digitB digit_tests sc s (p + 1) w2 hS2 hs (by omega) (HT.out.touched hT2 hsc) hsc)
  have HT2 := hide hT2
  clear hb2 hS2 hT2
  rw [show runTo digitB s (p + 1) = q from HQ.out] at K55
  go_wp2_with (go_at_call 37; refine K55.out.mono ?_)
  rintro e w3 ⟨rfl, hS3, hT3⟩
  have y0 := hS3.c0
  have y1 := hS3.c1
  have y2 := hS3.lt
  have hT4 := HT2.out.trans hT3
  have K42 : Hid (∀ W, Below w3.heap.size w3 W → Calls Tryd.prog 46 #[.string (s.extract (p + 1) q), .int .i64 99999] W fun e w' => e = .returned (.tuple #[.int .i64 ((numOf (s.extract (p + 1) q) 99999).getD 0), .bool (numOf (s.extract (p + 1) q) 99999).isSome]) ∧ Below W.heap.size W w') := fun W hW => number_calls (s.extract (p + 1) q) 99999 W (by rw [ByteArray.size_extract]; omega) (run_digs (by omega) HQ.out) ((HT.out.touched hT4 hsc).below hW (by omega))
  have HS3 := hide hS3
  have HT3 := hide hT4
  clear hS3 hT3 hT4
  have hgd : good (s.extract (p + 1) q) = (numOf (s.extract (p + 1) q) 99999).isSome := rfl
  cases hn : (numOf (s.extract (p + 1) q) 99999) with
  | none =>
    rw [hn] at hgd K42
    simp only [Option.isSome_none, Option.getD_none] at hgd K42
    have hk := HKd.out
    rw [hgd] at hk
    clear HKd
    simp at hk
    subst hk
    clear hgd hn
    go_wp2_with fail
    have q0 : ∀ x : Later w3.heap.size w3, x.W.cell? ⟨sc, 0, none⟩ = some _ := fun x => cell_later x.h y0
    have q1 : ∀ x : Later w3.heap.size w3, x.W.cell? ⟨sc, 1, none⟩ = some _ := fun x => cell_later x.h y1
    have hwr : IntKind.i64.wrap ((p : Int) + 1) = ((p + 1 : Nat) : Int) := by rw [IntKind.wrap_i64]; omega
    have hb1 : (0 : Int) ≤ (p : Int) + 1 := by omega
    have hb2 : (p : Int) + 1 ≤ (q : Int) := by omega
    refine wp_region_later (by kernel_rfl) (by kernel_rfl) (Below.refl w3.heap.size w3) ?_
    have hst := Later.some w3.heap.size w3
    iterate 11 quiet_step (fail)
    quiet_step (exact Later.calls K42.out (Nat.le_refl _) _)
    iterate 5 quiet_step (fail)
    refine wpQuiet_nil ?_
    intro _ hw'
    obtain ⟨x, rfl⟩ := hw'
    have hb4 := x.h
    have HS4 := hide (HS3.out.below hb4)
    have HT4 := hide (HT3.out.later hb4)
    clear hb4
    go_wp2_with fail
    go_ret
    exact ⟨rfl, HS4.out, HT4.out⟩
  | some v =>
    rw [hn] at hgd K42
    simp only [Option.isSome_some, Option.getD_some] at hgd K42
    have hk := HKd.out
    rw [hgd] at hk
    clear HKd
    simp at hk
    subst hk
    clear hgd hn
    go_wp2_with fail
    have q0 : ∀ x : Later w3.heap.size w3, x.W.cell? ⟨sc, 0, none⟩ = some _ := fun x => cell_later x.h y0
    have q1 : ∀ x : Later w3.heap.size w3, x.W.cell? ⟨sc, 1, none⟩ = some _ := fun x => cell_later x.h y1
    have hwr : IntKind.i64.wrap ((p : Int) + 1) = ((p + 1 : Nat) : Int) := by rw [IntKind.wrap_i64]; omega
    have hb1 : (0 : Int) ≤ (p : Int) + 1 := by omega
    have hb2 : (p : Int) + 1 ≤ (q : Int) := by omega
    refine wp_region_later (by kernel_rfl) (by kernel_rfl) (Below.refl w3.heap.size w3) ?_
    have hst := Later.some w3.heap.size w3
    iterate 11 quiet_step (fail)
    quiet_step (exact Later.calls K42.out (Nat.le_refl _) _)
    iterate 5 quiet_step (fail)
    refine wpQuiet_nil ?_
    intro _ hw'
    obtain ⟨x, rfl⟩ := hw'
    have hb4 := x.h
    have HS4 := hide (HS3.out.below hb4)
    have HT4 := hide (HT3.out.later hb4)
    clear hb4
    go_wp2_with fail
    go_ret
    exact ⟨rfl, HS4.out, HT4.out⟩

set_option maxRecDepth 100000 in
set_option maxHeartbeats 4000000 in
theorem stake_long (sc : Nat) (s : ByteArray) (p : Nat) (w : World) (h : ScAt w sc s p) (hs : s.size ≤ 20000) (hp : p < s.size) (ht : Tabs w) (hsc : 5 < sc) (h1 : nameB (at_ s p) true = true) (q : Nat) (hq : nameEnd s p = q) (hlong : ¬ q - p ≤ 40) :
    Calls Tryd.prog 39 #[.pointer (some ⟨sc, 0, none⟩)] w fun e w' => TakeOf w sc s 6 q e w' := by
  have c0 := h.c0
  have c1 := h.c1
  have hlt := h.lt
  have f1 := h.f 1
  have HS := hide h
  have HT := hide ht
  have hat := at_eq hp
  have hx := at_lt s p
  have hd : (97 ≤ at_ s p ∧ at_ s p ≤ 122) ∨ (65 ≤ at_ s p ∧ at_ s p ≤ 90) ∨ at_ s p = 95 := by
    have h9 := h1
    simp [nameB, letterB] at h9
    omega
  have e0 : (((s[p]'hp).toNat : Int) == 40) = false := by rw [hat]; simp; omega
  have e1 : (((s[p]'hp).toNat : Int) == 41) = false := by rw [hat]; simp; omega
  have e2 : (((s[p]'hp).toNat : Int) == 35) = false := by rw [hat]; simp; omega
  have K60 : Hid (∀ W, Calls Tryd.prog 45 #[.int .u8 ((s[p]'hp).toNat : Nat)] W fun e w' => e = .returned (.bool false) ∧ Below W.heap.size W w') := fun W => by
    have := isDigit_calls (at_ s p) W hx
    have hf : digitB (at_ s p) = false := by simp [digitB]; omega
    rw [hf] at this
    rw [hat]
    exact this
  have K62 : Hid (∀ W, Tabs W → Calls Tryd.prog 47 #[.int .u8 ((s[p]'hp).toNat : Nat)] W fun e w' => e = .returned (.bool true) ∧ Below W.heap.size W w') := fun W hW => by
    have := begin_tests (at_ s p) W hx hW
    rw [h1] at this
    rw [hat]
    exact this
  clear hat h1 hd h ht
  have hle := nameEnd_le hp
  have hge := nameEnd_ge s p
  have HQ := hide hq
  rw [hq] at hge hle
  clear hq
  go_enter Tryd.func39, Tryd.ntmps39
  go_wp2_with fail
  go_quiet (fail)
  have HSt := hide (sc_step HS.out nq)
  go_wp2_with (go_at_call 45; refine (K60.out _).mono ?_)
  rintro e w2 ⟨rfl, hb2⟩
  have hS2 := HSt.out.1.below hb2
  have hT2 := HSt.out.2.later hb2
  have K62' := hide (K62.out w2 (HT.out.touched hT2 hsc))
  have HS2 := hide hS2
  have HT2 := hide hT2
  clear hb2 hS2 hT2
  go_wp2_with (go_at_call 47; refine K62'.out.mono ?_)
  rintro e w3 ⟨rfl, hb3⟩
  have hS3 := HS2.out.below hb3
  have hT3 := HT2.out.later hb3
  have K55 := hide (skip_calls 48 (fun c => nameB c false) name_tests sc s (p + 1) w3 hS3 hs (by omega) (HT.out.touched hT3 hsc) hsc)
  have HT3 := hide hT3
  clear hb3 hS3 hT3
  rw [show runTo (fun c => nameB c false) s (p + 1) = q from HQ.out] at K55
  go_wp2_with (go_at_call 37; refine K55.out.mono ?_)
  rintro e w4 ⟨rfl, hS4, hT4⟩
  have y1 := hS4.c1
  have y2 := hS4.lt
  have e4 : decide ((q : Int) - (p : Int) ≤ 40) = false := by simp; omega
  have HS4 := hide hS4
  have HT4 := hide (HT3.out.trans hT4)
  clear hS4 hT4
  go_wp2_with fail
  go_ret
  exact ⟨rfl, HS4.out, HT4.out⟩

set_option maxRecDepth 100000 in
set_option maxHeartbeats 4000000 in
theorem stake_other (sc : Nat) (s : ByteArray) (p : Nat) (w : World) (h : ScAt w sc s p) (hs : s.size ≤ 20000) (hp : p < s.size) (ht : Tabs w) (hsc : 5 < sc) (h0 : at_ s p ≠ 40) (h1 : at_ s p ≠ 41) (h2 : digitB (at_ s p) = false) (h3 : at_ s p ≠ 35) (h4 : nameB (at_ s p) true = false) :
    Calls Tryd.prog 39 #[.pointer (some ⟨sc, 0, none⟩)] w fun e w' => TakeOf w sc s 6 (p + 1) e w' := by
  have c0 := h.c0
  have c1 := h.c1
  have hlt := h.lt
  have f1 := h.f 1
  have HS := hide h
  have HT := hide ht
  have hat := at_eq hp
  have hx := at_lt s p
  have e0 : (((s[p]'hp).toNat : Int) == 40) = false := by rw [hat]; simp; omega
  have e1 : (((s[p]'hp).toNat : Int) == 41) = false := by rw [hat]; simp; omega
  have e2 : (((s[p]'hp).toNat : Int) == 35) = false := by rw [hat]; simp; omega
  have K60 : Hid (∀ W, Calls Tryd.prog 45 #[.int .u8 ((s[p]'hp).toNat : Nat)] W fun e w' => e = .returned (.bool false) ∧ Below W.heap.size W w') := fun W => by
    have := isDigit_calls (at_ s p) W hx
    rw [h2] at this
    rw [hat]
    exact this
  have K62 : Hid (∀ W, Tabs W → Calls Tryd.prog 47 #[.int .u8 ((s[p]'hp).toNat : Nat)] W fun e w' => e = .returned (.bool false) ∧ Below W.heap.size W w') := fun W hW => by
    have := begin_tests (at_ s p) W hx hW
    rw [h4] at this
    rw [hat]
    exact this
  clear hat h1 h0 h2 h3 h4 h ht
  go_enter Tryd.func39, Tryd.ntmps39
  go_wp2_with fail
  go_quiet (fail)
  have HSt := hide (sc_step HS.out nq)
  go_wp2_with (go_at_call 45; refine (K60.out _).mono ?_)
  rintro e w2 ⟨rfl, hb2⟩
  have hS2 := HSt.out.1.below hb2
  have hT2 := HSt.out.2.later hb2
  have K62' := hide (K62.out w2 (HT.out.touched hT2 hsc))
  have HS2 := hide hS2
  have HT2 := hide hT2
  clear hb2 hS2 hT2
  go_wp2_with (go_at_call 47; refine K62'.out.mono ?_)
  rintro e w3 ⟨rfl, hb3⟩
  have HS3 := hide (HS2.out.below hb3)
  have HT3 := hide (HT2.out.later hb3)
  clear hb3
  go_wp2_with fail
  go_ret
  exact ⟨rfl, HS3.out, HT3.out⟩

/-- take, whatever stands there. -/
theorem stake_all (sc : Nat) (s : ByteArray) (p : Nat) (w : World) (h : ScAt w sc s p) (hs : s.size ≤ 20000) (hp : p < s.size) (ht : Tabs w) (hsc : 5 < sc) :
    Calls Tryd.prog 39 #[.pointer (some ⟨sc, 0, none⟩)] w fun e w' => TakeOf w sc s (scanAt good s p).1 (scanAt good s p).2 e w' := by
  unfold scanAt
  by_cases h0 : at_ s p = 40
  · rw [if_pos h0]; exact stake_calls sc s p 1 _ w h hs hp ht hsc (.inl ⟨h0, rfl, rfl⟩)
  rw [if_neg h0]
  by_cases h1 : at_ s p = 41
  · rw [if_pos h1]; exact stake_calls sc s p 2 _ w h hs hp ht hsc (.inr (.inl ⟨h1, rfl, rfl⟩))
  rw [if_neg h1]
  by_cases h2 : digitB (at_ s p) = true
  · rw [if_pos h2]; exact stake_calls sc s p 4 _ w h hs hp ht hsc (.inr (.inr (.inl ⟨h2, rfl, rfl⟩)))
  rw [if_neg h2]
  by_cases h3 : at_ s p = 35
  · rw [if_pos h3]; exact stake_sharp sc s p w h hs hp ht hsc h3 _ rfl _ rfl
  rw [if_neg h3]
  by_cases h4 : nameB (at_ s p) true = true
  · rw [if_pos h4]
    by_cases h5 : nameEnd s p - p ≤ 40
    · rw [if_pos h5]; exact stake_calls sc s p 3 _ w h hs hp ht hsc (.inr (.inr (.inr ⟨h4, rfl, rfl, h5⟩)))
    · rw [if_neg h5]; exact stake_long sc s p w h hs hp ht hsc h4 _ rfl h5
  · rw [if_neg h4]; exact stake_other sc s p w h hs hp ht hsc h0 h1 (by simpa using h2) h3 (by simpa using h4)

/-- The scanner's next token: its kind, where it begins, where it ends. -/
def ntok (s : ByteArray) (p : Nat) : Nat × Nat × Nat :=
  if runTo blankB s p = s.size then (0, s.size, s.size) else ((scanAt good s (runTo blankB s p)).1, runTo blankB s p, (scanAt good s (runTo blankB s p)).2)

theorem ntok_at {s : ByteArray} {p : Nat} : (ntok s p).2.1 = runTo blankB s p := by
  unfold ntok; split
  · rename_i e; exact e.symm
  · rfl

end Go.Proofs.YtmpepnckfghepaaDoor
