/- The contracts of the scanner's isBlank, take and Next, where what stands there is a bracket, a name, a number or the end. (The library's contract of strings.IndexByte, laid at this program's numbers.) -/
import Derived.Test.YtpdoegjddiaaoaaDoorScan
import Derived.Test.YtpdoegjddiaaoaaDoorReads
import Derived.Shelf.Small.Strs
namespace Go.Proofs.YtpdoegjddiaaoaaDoor
open Go.RowKit Go.Shelf

def ixLays_ren : Go.Shelf.Ren := ⟨fun | 137 => 63 | 217 => 68 | 266 => 70 | n => n, fun | 9 => 9 | 5 => 5 | 3 => 3 | n => n, fun | n => n⟩
theorem ixLays : Go.Proofs.Lays.n137 Tryd.prog ixLays_ren := {
  mixed := by kernel_rfl
  f137 := Tryd.func63.trans (congrArg some (by kernel_rfl))
  f217 := Tryd.func68.trans (congrArg some (by kernel_rfl))
  f266 := Tryd.func70.trans (congrArg some (by kernel_rfl))
  t3 := Tryd.underlying3
  a3 := Tryd.isAgg3
  z3 := Tryd.sizeOf3
  v3 := Tryd.zeroValue3
  t5 := Tryd.underlying5
  a5 := Tryd.isAgg5
  z5 := Tryd.sizeOf5
  v5 := Tryd.zeroValue5
  t9 := Tryd.underlying9
  a9 := Tryd.isAgg9
  z9 := Tryd.sizeOf9
  v9 := Tryd.zeroValue9 }

theorem blank_index (c : Nat) (hc : c < 256) : decide (0 ≤ Lib.indexByte [32, 9, 10] (Int.toNat (c : Int)).toUInt8) = blankB c := by
  have h : ∀ c : Fin 256, decide (0 ≤ Lib.indexByte [32, 9, 10] (Int.toNat ((c : Nat) : Int)).toUInt8) = blankB c := by decide +kernel
  exact h ⟨c, hc⟩

set_option maxHeartbeats 400000 in
theorem isBlank_calls (c : Nat) (w : World) (hc : c < 256) : Calls Tryd.prog 60 #[.int .u8 c] w fun e w' => e = .returned (.bool (blankB c)) ∧ Below w.heap.size w w' := by
  have HI := hide (Any.strings_IndexByte ixLays ⟨#[32, 9, 10]⟩ (c : Int) w)
  have hb := blank_index c hc
  go_enter Tryd.func60, Tryd.ntmps60
  go_wp2_with (go_at_call 63; refine HI.out.mono ?_; rintro e w' ⟨rfl, rfl⟩)
  go_ret
  exact ⟨ret_bool hb, Below.refl _ _⟩

theorem blank_tests : Tests 60 blankB := ⟨fun args w' => by simp [go_sem], fun c w hc _ => isBlank_calls c w hc⟩

theorem begin_tests (c : Nat) (w : World) (hc : c < 256) (ht : Tabs w) : Calls Tryd.prog 66 #[.int .u8 c] w fun e w' => e = .returned (.bool (nameB c true)) ∧ Below w.heap.size w w' := beginsName_calls c w hc ht.s

/-- What take tells of what stands there: the token's kind, and where it ends. -/
def Taken (s : ByteArray) (p kd p' : Nat) : Prop :=
  (at_ s p = 40 ∧ kd = 1 ∧ p' = p + 1) ∨ (at_ s p = 41 ∧ kd = 2 ∧ p' = p + 1) ∨ (digitB (at_ s p) = true ∧ kd = 4 ∧ p' = runTo digitB s (p + 1)) ∨
  (nameB (at_ s p) true = true ∧ kd = 3 ∧ p' = runTo (fun c => nameB c false) s (p + 1) ∧ p' - p ≤ 40)

/-- The scanner has moved over one byte. -/
theorem sc_step {w : World} {sc p : Nat} {s : ByteArray} (h : ScAt w sc s p) (n : Nat) : ScAt ((w.drewN n).setCell ⟨sc, 1, none⟩ (.int .i64 ((p : Int) + 1))) sc s (p + 1) ∧ Touched w sc ((w.drewN n).setCell ⟨sc, 1, none⟩ (.int .i64 ((p : Int) + 1))) := by
  have h1 : ScAt (w.drewN n) sc s p := h.below (below_drewN (Below.refl _ _) n)
  have h2 := h1.set (p + 1)
  refine ⟨by simpa using h2, ((Touched.refl w sc).later (below_drewN (Below.refl _ _) n)).setSelf rfl _⟩

set_option maxRecDepth 100000 in
set_option maxHeartbeats 4000000 in
theorem stake_calls (sc : Nat) (s : ByteArray) (p kd p' : Nat) (w : World) (h : ScAt w sc s p) (hs : s.size ≤ 20000) (hp : p < s.size) (ht : Tabs w) (hsc : 1 < sc) (hk : Taken s p kd p') :
    Calls Tryd.prog 61 #[.pointer (some ⟨sc, 0, none⟩)] w fun e w' => e = .returned (.int .i64 (kd : Nat)) ∧ ScAt w' sc s p' ∧ Touched w sc w' := by
  have c0 := h.c0
  have c1 := h.c1
  have hlt := h.lt
  have f1 := h.f 1
  have HS := hide h
  have HT := hide ht
  have hat := at_eq hp
  have hx := at_lt s p
  clear h ht
  rcases hk with ⟨h1, rfl, rfl⟩ | ⟨h1, rfl, rfl⟩ | ⟨h1, rfl, rfl⟩ | ⟨h1, rfl, rfl, h4⟩
  · have e1 : (((s[p]'hp).toNat : Int) == 40) = true := by rw [hat, h1]; rfl
    clear hat h1
    go_enter Tryd.func61, Tryd.ntmps61
    go_wp2_with fail
    go_quiet (fail)
    go_wp2_with fail
    go_ret
    exact ⟨rfl, (sc_step HS.out nq).1, (sc_step HS.out nq).2⟩
  · have e0 : (((s[p]'hp).toNat : Int) == 40) = false := by rw [hat, h1]; rfl
    have e1 : (((s[p]'hp).toNat : Int) == 41) = true := by rw [hat, h1]; rfl
    clear hat h1
    go_enter Tryd.func61, Tryd.ntmps61
    go_wp2_with fail
    go_quiet (fail)
    go_wp2_with fail
    go_ret
    exact ⟨rfl, (sc_step HS.out nq).1, (sc_step HS.out nq).2⟩
  · have hd : 48 ≤ at_ s p ∧ at_ s p ≤ 57 := by simpa [digitB] using h1
    have e0 : (((s[p]'hp).toNat : Int) == 40) = false := by rw [hat]; simp; omega
    have e1 : (((s[p]'hp).toNat : Int) == 41) = false := by rw [hat]; simp; omega
    have K60 : Hid (∀ W, Calls Tryd.prog 64 #[.int .u8 ((s[p]'hp).toNat : Nat)] W fun e w' => e = .returned (.bool true) ∧ Below W.heap.size W w') := fun W => by
      have := isDigit_calls (at_ s p) W hx
      rw [h1] at this
      rw [hat]
      exact this
    clear hat h1 hd
    go_enter Tryd.func61, Tryd.ntmps61
    go_wp2_with fail
    go_quiet (fail)
    have HSt := hide (sc_step HS.out nq)
    go_wp2_with (go_at_call 64; refine (K60.out _).mono ?_)
    rintro e w2 ⟨rfl, hb2⟩
    have hS2 := HSt.out.1.below hb2
    have hT2 := HSt.out.2.later hb2
    have K55 := hide (skip_calls 64 digitB digit_tests sc s (p + 1) w2 hS2 hs (by omega) (HT.out.touched hT2 hsc) hsc)
    have HT2 := hide hT2
    clear hb2 hS2 hT2
    go_wp2_with (go_at_call 59; refine K55.out.mono ?_)
    rintro e w3 ⟨rfl, hS3, hT3⟩
    have HS3 := hide hS3
    have HT3 := hide (HT2.out.trans hT3)
    clear hS3 hT3
    go_wp2_with fail
    go_ret
    exact ⟨rfl, HS3.out, HT3.out⟩
  · have hd : (97 ≤ at_ s p ∧ at_ s p ≤ 122) ∨ (65 ≤ at_ s p ∧ at_ s p ≤ 90) ∨ at_ s p = 95 := by
      have h9 := h1
      simp [nameB, letterB] at h9
      omega
    have e0 : (((s[p]'hp).toNat : Int) == 40) = false := by rw [hat]; simp; omega
    have e1 : (((s[p]'hp).toNat : Int) == 41) = false := by rw [hat]; simp; omega
    have e2 : (((s[p]'hp).toNat : Int) == 35) = false := by rw [hat]; simp; omega
    have K60 : Hid (∀ W, Calls Tryd.prog 64 #[.int .u8 ((s[p]'hp).toNat : Nat)] W fun e w' => e = .returned (.bool false) ∧ Below W.heap.size W w') := fun W => by
      have := isDigit_calls (at_ s p) W hx
      have hf : digitB (at_ s p) = false := by simp [digitB]; omega
      rw [hf] at this
      rw [hat]
      exact this
    have K62 : Hid (∀ W, Tabs W → Calls Tryd.prog 66 #[.int .u8 ((s[p]'hp).toNat : Nat)] W fun e w' => e = .returned (.bool true) ∧ Below W.heap.size W w') := fun W hW => by
      have := begin_tests (at_ s p) W hx hW
      rw [h1] at this
      rw [hat]
      exact this
    clear hat h1 hd
    have hle := runTo_le (fun c => nameB c false) s (k := p + 1) (by omega)
    have hge := runTo_ge (fun c => nameB c false) s (p + 1)
    generalize hq : runTo (fun c => nameB c false) s (p + 1) = q at *
    have HQ := hide hq
    clear hq
    go_enter Tryd.func61, Tryd.ntmps61
    go_wp2_with fail
    go_quiet (fail)
    have HSt := hide (sc_step HS.out nq)
    go_wp2_with (go_at_call 64; refine (K60.out _).mono ?_)
    rintro e w2 ⟨rfl, hb2⟩
    have hS2 := HSt.out.1.below hb2
    have hT2 := HSt.out.2.later hb2
    have K62' := hide (K62.out w2 (HT.out.touched hT2 hsc))
    have HS2 := hide hS2
    have HT2 := hide hT2
    clear hb2 hS2 hT2
    go_wp2_with (go_at_call 66; refine K62'.out.mono ?_)
    rintro e w3 ⟨rfl, hb3⟩
    have hS3 := HS2.out.below hb3
    have hT3 := HT2.out.later hb3
    have K55 := hide (skip_calls 67 (fun c => nameB c false) name_tests sc s (p + 1) w3 hS3 hs (by omega) (HT.out.touched hT3 hsc) hsc)
    have HT3 := hide hT3
    clear hb3 hS3 hT3
    rw [HQ.out] at K55
    go_wp2_with (go_at_call 59; refine K55.out.mono ?_)
    rintro e w4 ⟨rfl, hS4, hT4⟩
    have y1 := hS4.c1
    have y2 := hS4.lt
    have e4 : decide ((q : Int) - (p : Int) ≤ 40) = true := by simp; omega
    have HS4 := hide hS4
    have HT4 := hide (HT3.out.trans hT4)
    clear hS4 hT4
    go_wp2_with fail
    go_ret
    exact ⟨rfl, HS4.out, HT4.out⟩

end Go.Proofs.YtpdoegjddiaaoaaDoor
