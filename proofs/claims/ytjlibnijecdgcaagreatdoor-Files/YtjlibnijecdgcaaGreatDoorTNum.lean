/- The contracts of the scanner's isBlank, take and Next, where what stands there is a bracket, a name, a number or the end. (The library's contract of strings.IndexByte, laid at this program's numbers.) -/
import Derived.Test.YtjlibnijecdgcaaGreatDoorDcl
import Derived.Test.YtjlibnijecdgcaaGreatDoorTokName
import Derived.Shelf.Small.Strs
import Derived.Test.YtjlibnijecdgcaaGreatDoorExact
import Derived.Deep.RegionHeld3

namespace Go.Proofs.YtjlibnijecdgcaaGreatDoor
open Go.RowKit Go.Shelf

def ixLays_ren : Go.Shelf.Ren := ⟨fun | 137 => 90 | 217 => 106 | 266 => 113 | n => n, fun | 9 => 9 | 5 => 5 | 3 => 3 | n => n, fun | n => n⟩
theorem ixLays : Go.Proofs.Lays.n137 Tryz.prog ixLays_ren := {
  mixed := by kernel_rfl
  f137 := Tryz.func90.trans (congrArg some (by kernel_rfl))
  f217 := Tryz.func106.trans (congrArg some (by kernel_rfl))
  f266 := Tryz.func113.trans (congrArg some (by kernel_rfl))
  t3 := Tryz.underlying3
  a3 := Tryz.isAgg3
  z3 := Tryz.sizeOf3
  v3 := Tryz.zeroValue3
  t5 := Tryz.underlying5
  a5 := Tryz.isAgg5
  z5 := Tryz.sizeOf5
  v5 := Tryz.zeroValue5
  t9 := Tryz.underlying9
  a9 := Tryz.isAgg9
  z9 := Tryz.sizeOf9
  v9 := Tryz.zeroValue9 }

theorem blank_index (c : Nat) (hc : c < 256) : decide (0 ≤ Lib.indexByte [32, 9, 10] (Int.toNat (c : Int)).toUInt8) = blankB c := by
  have h : ∀ c : Fin 256, decide (0 ≤ Lib.indexByte [32, 9, 10] (Int.toNat ((c : Nat) : Int)).toUInt8) = blankB c := by decide +kernel
  exact h ⟨c, hc⟩

set_option maxHeartbeats 400000 in
theorem isBlank_calls (c : Nat) (w : World) (hc : c < 256) : Calls Tryz.prog 73 #[.int .u8 c] w fun e w' => e = .returned (.bool (blankB c)) ∧ Below w.heap.size w w' := by
  have HI := hide (Any.strings_IndexByte ixLays ⟨#[32, 9, 10]⟩ (c : Int) w)
  have hb := blank_index c hc
  go_enter Tryz.func73, Tryz.ntmps73
  go_wp2_with (go_at_call 90; refine HI.out.mono ?_; rintro e w' ⟨rfl, rfl⟩)
  go_ret
  exact ⟨ret_bool hb, Below.refl _ _⟩

theorem blank_tests : Tests 73 blankB := ⟨fun args w' => by simp [go_sem], fun c w hc _ => isBlank_calls c w hc⟩

theorem begin_tests (c : Nat) (w : World) (hc : c < 256) (ht : Tabs w) : Calls Tryz.prog 92 #[.int .u8 c] w fun e w' => e = .returned (.bool (nameB c true)) ∧ Below w.heap.size w w' := beginsName_calls c w hc ht.s

/-- What take tells of what stands there: the token's kind, and where it ends. -/
def Taken (s : ByteArray) (p kd p' : Nat) : Prop :=
  (at_ s p = 40 ∧ kd = 1 ∧ p' = p + 1) ∨ (at_ s p = 41 ∧ kd = 2 ∧ p' = p + 1) ∨ (digitB (at_ s p) = true ∧ kd = 4 ∧ p' = runTo digitB s (p + 1)) ∨
  (nameB (at_ s p) true = true ∧ kd = 3 ∧ p' = runTo (fun c => nameB c false) s (p + 1) ∧ p' - p ≤ 40)

/-- The scanner has moved over one byte. -/
theorem sc_step {w : World} {sc p : Nat} {s : ByteArray} (h : ScAt w sc s p) (n : Nat) : ScAt ((w.drewN n).setCell ⟨sc, 1, none⟩ (.int .i64 ((p : Int) + 1))) sc s (p + 1) ∧ Touched w sc ((w.drewN n).setCell ⟨sc, 1, none⟩ (.int .i64 ((p : Int) + 1))) := by
  have h1 : ScAt (w.drewN n) sc s p := h.below (below_drewN (Below.refl _ _) n)
  have h2 := h1.set (p + 1)
  refine ⟨by simpa using h2, ((Touched.refl w sc).later (below_drewN (Below.refl _ _) n)).setSelf rfl _⟩

set_option maxRecDepth 100000 in
set_option maxHeartbeats 4000000 in
theorem stake_calls (sc : Nat) (s : ByteArray) (p kd p' : Nat) (w : World) (h : ScAt w sc s p) (hs : s.size ≤ 200000) (hp : p < s.size) (ht : Tabs w) (hsc : 11 < sc) (hk : Taken s p kd p') :
    Calls Tryz.prog 74 #[.pointer (some ⟨sc, 0, none⟩)] w fun e w' => e = .returned (.int .i64 (kd : Nat)) ∧ ScAt w' sc s p' ∧ Touched w sc w' := by
  have c0 := h.c0
  have c1 := h.c1
  have hlt := h.lt
  have f1 := h.f 1
  have HS := hide h
  have HT := hide ht
  have hat := at_eq hp
  have hx := at_lt s p
  clear h ht
  rcases hk with ⟨h1, rfl, rfl⟩ | ⟨h1, rfl, rfl⟩ | ⟨h1, rfl, rfl⟩ | ⟨h1, rfl, rfl, h4⟩
  · have e1 : (((s[p]'hp).toNat : Int) == 40) = true := by rw [hat, h1]; rfl
    clear hat h1
    go_enter Tryz.func74, Tryz.ntmps74
    go_wp2_with fail
    go_quiet (fail)
    go_wp2_with fail
    go_ret
    exact ⟨rfl, (sc_step HS.out nq).1, (sc_step HS.out nq).2⟩
  · have e0 : (((s[p]'hp).toNat : Int) == 40) = false := by rw [hat, h1]; rfl
    have e1 : (((s[p]'hp).toNat : Int) == 41) = true := by rw [hat, h1]; rfl
    clear hat h1
    go_enter Tryz.func74, Tryz.ntmps74
    go_wp2_with fail
    go_quiet (fail)
    go_wp2_with fail
    go_ret
    exact ⟨rfl, (sc_step HS.out nq).1, (sc_step HS.out nq).2⟩
  · have hd : 48 ≤ at_ s p ∧ at_ s p ≤ 57 := by simpa [digitB] using h1
    have e0 : (((s[p]'hp).toNat : Int) == 40) = false := by rw [hat]; simp; omega
    have e1 : (((s[p]'hp).toNat : Int) == 41) = false := by rw [hat]; simp; omega
    have K60 : Hid (∀ W, Calls Tryz.prog 91 #[.int .u8 ((s[p]'hp).toNat : Nat)] W fun e w' => e = .returned (.bool true) ∧ Below W.heap.size W w') := fun W => by
      have := isDigit_calls (at_ s p) W hx
      rw [h1] at this
      rw [hat]
      exact this
    clear hat h1 hd
    go_enter Tryz.func74, Tryz.ntmps74
    go_wp2_with fail
    go_quiet (fail)
    have HSt := hide (sc_step HS.out nq)
    go_wp2_with (go_at_call 91; refine (K60.out _).mono ?_)
    rintro e w2 ⟨rfl, hb2⟩
    have hS2 := HSt.out.1.below hb2
    have hT2 := HSt.out.2.later hb2
    have K55 := hide (skip_calls 91 digitB digit_tests sc s (p + 1) w2 hS2 hs (by omega) (HT.out.touched hT2 hsc) hsc)
    have HT2 := hide hT2
    clear hb2 hS2 hT2
    go_wp2_with (go_at_call 72; refine K55.out.mono ?_)
    rintro e w3 ⟨rfl, hS3, hT3⟩
    have HS3 := hide hS3
    have HT3 := hide (HT2.out.trans hT3)
    clear hS3 hT3
    go_wp2_with fail
    go_ret
    exact ⟨rfl, HS3.out, HT3.out⟩
  · have hd : (97 ≤ at_ s p ∧ at_ s p ≤ 122) ∨ (65 ≤ at_ s p ∧ at_ s p ≤ 90) ∨ at_ s p = 95 := by
      have h9 := h1
      simp [nameB, letterB] at h9
      omega
    have e0 : (((s[p]'hp).toNat : Int) == 40) = false := by rw [hat]; simp; omega
    have e1 : (((s[p]'hp).toNat : Int) == 41) = false := by rw [hat]; simp; omega
    have e2 : (((s[p]'hp).toNat : Int) == 35) = false := by rw [hat]; simp; omega
    have K60 : Hid (∀ W, Calls Tryz.prog 91 #[.int .u8 ((s[p]'hp).toNat : Nat)] W fun e w' => e = .returned (.bool false) ∧ Below W.heap.size W w') := fun W => by
      have := isDigit_calls (at_ s p) W hx
      have hf : digitB (at_ s p) = false := by simp [digitB]; omega
      rw [hf] at this
      rw [hat]
      exact this
    have K62 : Hid (∀ W, Tabs W → Calls Tryz.prog 92 #[.int .u8 ((s[p]'hp).toNat : Nat)] W fun e w' => e = .returned (.bool true) ∧ Below W.heap.size W w') := fun W hW => by
      have := begin_tests (at_ s p) W hx hW
      rw [h1] at this
      rw [hat]
      exact this
    clear hat h1 hd
    have hle := runTo_le (fun c => nameB c false) s (k := p + 1) (by omega)
    have hge := runTo_ge (fun c => nameB c false) s (p + 1)
    generalize hq : runTo (fun c => nameB c false) s (p + 1) = q at *
    have HQ := hide hq
    clear hq
    go_enter Tryz.func74, Tryz.ntmps74
    go_wp2_with fail
    go_quiet (fail)
    have HSt := hide (sc_step HS.out nq)
    go_wp2_with (go_at_call 91; refine (K60.out _).mono ?_)
    rintro e w2 ⟨rfl, hb2⟩
    have hS2 := HSt.out.1.below hb2
    have hT2 := HSt.out.2.later hb2
    have K62' := hide (K62.out w2 (HT.out.touched hT2 hsc))
    have HS2 := hide hS2
    have HT2 := hide hT2
    clear hb2 hS2 hT2
    go_wp2_with (go_at_call 92; refine K62'.out.mono ?_)
    rintro e w3 ⟨rfl, hb3⟩
    have hS3 := HS2.out.below hb3
    have hT3 := HT2.out.later hb3
    have K55 := hide (skip_calls 93 (fun c => nameB c false) name_tests sc s (p + 1) w3 hS3 hs (by omega) (HT.out.touched hT3 hsc) hsc)
    have HT3 := hide hT3
    clear hb3 hS3 hT3
    rw [HQ.out] at K55
    go_wp2_with (go_at_call 72; refine K55.out.mono ?_)
    rintro e w4 ⟨rfl, hS4, hT4⟩
    have y1 := hS4.c1
    have y2 := hS4.lt
    have e4 : decide ((q : Int) - (p : Int) ≤ 40) = true := by simp; omega
    have HS4 := hide hS4
    have HT4 := hide (HT3.out.trans hT4)
    clear hS4 hT4
    go_wp2_with fail
    go_ret
    exact ⟨rfl, HS4.out, HT4.out⟩

end Go.Proofs.YtjlibnijecdgcaaGreatDoor

/- The contracts of the scanner's Next and Expect, where what is asked for stands there. -/
namespace Go.Proofs.YtjlibnijecdgcaaGreatDoor
open Go.RowKit

abbrev ztok : Obj := .cells #[.int .i64 0, .int .i64 0, .string ⟨#[]⟩] 73

theorem tcells {w w' : World} {sc : Nat} (hsc : sc < w.heap.size) (ht : Touched (w.alloc ztok) sc w') : w'.cell? ⟨w.heap.size, 0, none⟩ = some (.int .i64 0) ∧ w'.cell? ⟨w.heap.size, 1, none⟩ = some (.int .i64 0) ∧ w'.cell? ⟨w.heap.size, 2, none⟩ = some (.string ⟨#[]⟩) ∧ (∀ i, w'.frozen? ⟨w.heap.size, i, none⟩ = false) ∧ w.heap.size < w'.heap.size := by
  have hb : w'.heap[w.heap.size]? = (w.alloc ztok).heap[w.heap.size]? := ht.block _ (by simp) (by simp; omega)
  have hz := ht.size
  simp at hz
  refine ⟨?_, ?_, ?_, fun i => ?_, by omega⟩
  · rw [World.cell?_of_block hb]; simp
  · rw [World.cell?_of_block hb]; simp
  · rw [World.cell?_of_block hb]; simp
  · rw [World.frozen?_of_block hb]; simp [World.frozen?_alloc_at]

theorem Touched.drew' {w w' : World} {m : Nat} (h : Touched w m w') : Touched w m w'.drew := ⟨h.os, h.tape, h.output, h.size, h.block⟩

/-- A new block of three cells is filled: the scanner stands as it stood. -/
theorem filled3 {w W : World} {sc p n : Nat} {s : ByteArray} (hn : w.heap.size ≤ n) (hne : n ≠ sc) (hS : ScAt W sc s p) (hT : Touched w sc W) (u0 u1 u2 : Value) :
    ScAt (((W.setCell ⟨n, 0, none⟩ u0).setCell ⟨n, 1, none⟩ u1).setCell ⟨n, 2, none⟩ u2) sc s p ∧ Touched w sc (((W.setCell ⟨n, 0, none⟩ u0).setCell ⟨n, 1, none⟩ u1).setCell ⟨n, 2, none⟩ u2) := by
  refine ⟨hS.of_block ?_, ?_⟩
  · rw [Below.heap_setCell _ _ _ _ (by show sc ≠ n; omega), Below.heap_setCell _ _ _ _ (by show sc ≠ n; omega), Below.heap_setCell _ _ _ _ (by show sc ≠ n; omega)]
  · exact ((hT.setNew (a := ⟨n, 0, none⟩) hn _).setNew (a := ⟨n, 1, none⟩) hn _).setNew (a := ⟨n, 2, none⟩) hn _

set_option maxRecDepth 100000 in
set_option maxHeartbeats 4000000 in
theorem next_tok (sc : Nat) (s : ByteArray) (p kd p' : Nat) (w : World) (h : ScAt w sc s p) (hs : s.size ≤ 200000) (hp : p ≤ s.size) (ht : Tabs w) (hsc : 11 < sc) (hk : runTo blankB s p < s.size) (hT : Taken s (runTo blankB s p) kd p') (hp' : runTo blankB s p ≤ p') (hp2 : p' ≤ s.size) :
    Calls Tryz.prog 44 #[.pointer (some ⟨sc, 0, none⟩)] w fun e w' => e = .returned (.agg #[.int .i64 (kd : Nat), .int .i64 (runTo blankB s p : Nat), .string (s.extract (runTo blankB s p) p')]) ∧ ScAt w' sc s p' ∧ Touched w sc w' := by
  have hlt := h.lt
  have K1 := hide (skip_calls 73 blankB blank_tests sc s p _ (h.alloc ztok) hs hp (ht.below ((Below.refl _ _).alloc (Nat.le_refl _) _) ht.lt) hsc)
  have HT := hide ht
  have HTk := hide hT
  clear h ht hT
  generalize runTo blankB s p = k at *
  go_enter Tryz.func44, Tryz.ntmps44
  go_wp2_with (go_at_call 72; refine K1.out.mono ?_)
  rintro e w1 ⟨rfl, hS1, hT1⟩
  have c0 := hS1.c0
  have c1 := hS1.c1
  have l1 := hS1.lt
  have e1 : ((k : Int) == (s.size : Int)) = false := by simp; omega
  have HS1 := hide hS1
  have HT1 := hide hT1
  clear hS1 hT1
  go_wp2_with fail
  go_quiet (fail)
  have K2 := hide (stake_calls sc s k kd p' (w1.drewN nq) (HS1.out.below (below_drewN (Below.refl _ _) nq)) hs hk (((HT.out.below ((Below.refl _ _).alloc (Nat.le_refl _) ztok) HT.out.lt).touched HT1.out hsc).below (below_drewN (Below.refl _ _) nq) (by omega)) hsc HTk.out)
  go_wp2_with (go_at_call 74; refine K2.out.mono ?_)
  rintro e w2 ⟨rfl, hS2, hT2⟩
  have c2 := hS2.c0
  have c3 := hS2.c1
  have l2 := hS2.lt
  have hTt := (HT1.out.later (below_drewN (Below.refl _ _) nq)).trans hT2
  obtain ⟨d0, d1, d2, d3, d4⟩ := tcells hlt hTt
  have HS2 := hide hS2
  have HT2 := hide hTt
  clear hS2 hT2 hTt c0 c1 l1
  go_wp2_with fail
  have hn1 : ¬ w.heap.size = sc := by omega
  have hn2 : ¬ sc = w.heap.size := by omega
  go_region_held3 (fun w' => w'.cell? ⟨sc, 0, none⟩ = some (.string s) ∧ w'.cell? ⟨sc, 1, none⟩ = some (.int .i64 (p' : Nat))) (go_keep) (fail)
  all_goals
    go_wp2_with fail
    refine bodyPost_ret (v := .agg #[.int .i64 (kd : Nat), .int .i64 (k : Nat), .string (s.extract k p')]) (by simp [results, Tryz.results44, go_sem, d0, d1, d2]) rfl ?_
    have hf := filled3 (Nat.le_refl w.heap.size) hn1 HS2.out ((Touched.alloc w sc ztok).trans HT2.out) (.int .i64 (kd : Nat)) (.int .i64 (k : Nat)) (.string (s.extract k p'))
    exact ⟨rfl, hf.1.of_block rfl, hf.2.drew'⟩

set_option maxRecDepth 100000 in
set_option maxHeartbeats 4000000 in
theorem next_end (sc : Nat) (s : ByteArray) (p : Nat) (w : World) (h : ScAt w sc s p) (hs : s.size ≤ 200000) (hp : p ≤ s.size) (ht : Tabs w) (hsc : 11 < sc) (hk : runTo blankB s p = s.size) :
    Calls Tryz.prog 44 #[.pointer (some ⟨sc, 0, none⟩)] w fun e w' => e = .returned (.agg #[.int .i64 (0 : Nat), .int .i64 (s.size : Nat), .string ⟨#[]⟩]) ∧ ScAt w' sc s s.size ∧ Touched w sc w' := by
  have hlt := h.lt
  have K1 := hide (skip_calls 73 blankB blank_tests sc s p _ (h.alloc ztok) hs hp (ht.below ((Below.refl _ _).alloc (Nat.le_refl _) _) ht.lt) hsc)
  rw [hk] at K1
  clear h ht hk
  go_enter Tryz.func44, Tryz.ntmps44
  go_wp2_with (go_at_call 72; refine K1.out.mono ?_)
  rintro e w1 ⟨rfl, hS1, hT1⟩
  have c0 := hS1.c0
  have c1 := hS1.c1
  have l1 := hS1.lt
  obtain ⟨d0, d1, d2, d3, d4⟩ := tcells hlt hT1
  have HS1 := hide hS1
  have HT1 := hide hT1
  clear hS1 hT1
  go_wp2_with fail
  go_quiet (fail)
  go_wp2_with fail
  refine bodyPost_ret (v := .agg #[.int .i64 (0 : Nat), .int .i64 (s.size : Nat), .string ⟨#[]⟩]) (by simp [results, Tryz.results44, go_sem, d0, d1, d2]) rfl ?_
  have hf := filled3 (Nat.le_refl w.heap.size) (by omega) (HS1.out.below (below_drewN (Below.refl _ _) nq)) (((Touched.alloc w sc ztok).trans HT1.out).later (below_drewN (Below.refl _ _) nq)) (.int .i64 0) (.int .i64 (s.size : Nat)) (.string ⟨#[]⟩)
  exact ⟨rfl, hf.1, hf.2⟩

/-- A list of kinds of tokens, read alone. -/
def InKinds (w : World) (v : Value) (ks : List Nat) : Prop := ks.length ≤ 100 ∧ ∃ (b cap : Nat), v = .slice (some ⟨b, 0, none⟩) ks.length cap ∧ ∀ i (hi : i < ks.length), w.cell? ⟨b, i, none⟩ = some (.int .i64 (ks[i] : Nat))

set_option maxHeartbeats 400000 in
theorem kindIndex_calls (k : Nat) (ks : List Nat) (v : Value) (w : World) (hs : InKinds w v ks) (hk : k ∈ ks) :
    Calls Tryz.prog 75 #[v, .int .i64 (k : Nat)] w fun e w' => ∃ r : Nat, e = .returned (.int .i64 (r : Nat)) ∧ w' = w := by
  obtain ⟨hm, b, cap, rfl, hc⟩ := hs
  have HC := hide hc
  have HK := hide hk
  clear hc hk
  go_enter Tryz.func75, Tryz.ntmps75
  go_wp2_with fail
  go_loop [8] (fun i => ∃ j : Nat, j ≤ ks.length ∧ i = .int .i64 j ∧ ∀ m (h : m < ks.length), m < j → ks[m] ≠ k) (fun i => ks.length - (intOf i).toNat)
  case atStart => exact ⟨0, Nat.zero_le _, rfl, fun j _ h => absurd h (by omega)⟩
  case round =>
    obtain ⟨j, hj, rfl, hno⟩ := hrel
    have HN : Hid (∀ m (h : m < ks.length), m < j → ks[m] ≠ k) := hno
    clear hno
    by_cases hlt : j < ks.length
    · have hcell := HC.out j hlt
      by_cases he : ks[j] = k
      · have e1 : ((k : Int) == ((ks[j] : Nat) : Int)) = true := by simp [he]
        clear he
        go_wp2
        go_ret
        exact ⟨⟨j, rfl⟩, rfl⟩
      · have e1 : ((k : Int) == ((ks[j] : Nat) : Int)) = false := by simp; omega
        have HE : Hid (ks[j] ≠ k) := he
        clear he
        go_wp2
        go_round
        case rel => exact ⟨j + 1, by omega, by go_num, fun m h hm => if e : m = j then by subst e; exact HE.out else HN.out m h (by omega)⟩
        case measure => simp [intOf]; omega
    · exfalso
      obtain ⟨m, hm', e⟩ := List.getElem_of_mem HK.out
      exact HN.out m hm' (by omega) e

set_option maxHeartbeats 400000 in
theorem contains_calls (k : Nat) (ks : List Nat) (v : Value) (w : World) (hs : InKinds w v ks) (hk : k ∈ ks) :
    Calls Tryz.prog 45 #[v, .int .i64 (k : Nat)] w fun e w' => e = .returned (.bool true) ∧ w' = w := by
  have HI := hide (kindIndex_calls k ks v w hs hk)
  obtain ⟨hm, b, cap, rfl, -⟩ := hs
  clear hk
  go_enter Tryz.func45, Tryz.ntmps45
  go_wp2_with (go_at_call 75; refine HI.out.mono ?_)
  rintro e w' ⟨r, rfl, rfl⟩
  go_wp2_with fail
  go_ret
  exact ⟨rfl, rfl⟩

/-- What Next answers, and where it leaves the scanner. -/
def Nexts (s : ByteArray) (p kd k p' : Nat) (t : ByteArray) : Prop := ∀ (sc : Nat) (w : World), ScAt w sc s p → Tabs w → 11 < sc → Calls Tryz.prog 44 #[.pointer (some ⟨sc, 0, none⟩)] w fun e w' => e = .returned (.agg #[.int .i64 (kd : Nat), .int .i64 (k : Nat), .string t]) ∧ ScAt w' sc s p' ∧ Touched w sc w'

theorem InKinds.touched {w w' : World} {v : Value} {ks : List Nat} {sc : Nat} (h : InKinds w v ks) (ht : Touched w sc w') (hv : ∀ b n cap, v = .slice (some ⟨b, 0, none⟩) n cap → b ≠ sc) (h0 : 0 < ks.length) : InKinds w' v ks := by
  obtain ⟨hm, b, cap, e, hc⟩ := h
  refine ⟨hm, b, cap, e, fun i hi => ?_⟩
  have hb := World.block_lt_of_cell? _ _ (hc 0 h0)
  rw [ht.cell (p := ⟨b, i, none⟩) hb (hv b _ _ e)]
  exact hc i hi

set_option maxRecDepth 100000 in
set_option maxHeartbeats 4000000 in
theorem expect_calls (sc : Nat) (s : ByteArray) (p kd k p' : Nat) (t : ByteArray) (ks : List Nat) (v : Value) (w : World) (hn : Nexts s p kd k p' t) (h : ScAt w sc s p) (ht : Tabs w) (hsc : 11 < sc) (hv : InKinds w v ks) (hne : ∀ b n cap, v = .slice (some ⟨b, 0, none⟩) n cap → b ≠ sc) (hk : kd ∈ ks) :
    Calls Tryz.prog 30 #[.pointer (some ⟨sc, 0, none⟩), v] w fun e w' => e = .returned (.agg #[.int .i64 (kd : Nat), .int .i64 (k : Nat), .string t]) ∧ ScAt w' sc s p' ∧ Touched w sc w' := by
  have hlt := h.lt
  have h0 : 0 < ks.length := List.length_pos_of_mem hk
  have K1 := hide (hn sc _ (h.alloc ztok) (ht.below ((Below.refl _ _).alloc (Nat.le_refl _) _) ht.lt) hsc)
  have HV := hide (hv.touched (Touched.alloc w sc ztok) hne h0)
  have HNe := hide hne
  have HK := hide hk
  obtain ⟨hm, b, cap, rfl, -⟩ := hv
  clear h ht hn hne hk
  go_enter Tryz.func30, Tryz.ntmps30
  go_wp2_with (go_at_call 44; refine K1.out.mono ?_)
  rintro e w1 ⟨rfl, hS1, hT1⟩
  obtain ⟨d0, d1, d2, d3, d4⟩ := tcells hlt hT1
  have hT2 := hT1.trans (Touched.alloc w1 sc (.cells #[.int .i64 (kd : Nat), .int .i64 (k : Nat), .string t] 73))
  have K2 := hide (contains_calls kd ks _ _ (HV.out.touched hT2 HNe.out h0) HK.out)
  have HS1 := hide hS1
  have HT1 := hide hT1
  clear hS1 hT1 hT2
  go_wp2_with (go_at_call 45; refine K2.out.mono ?_)
  rintro e w2 ⟨rfl, rfl⟩
  go_wp2_with fail
  refine bodyPost_ret (v := .agg #[.int .i64 (kd : Nat), .int .i64 (k : Nat), .string t]) (by simp [results, Tryz.results30, go_sem, d0, d1, d2, d4]) rfl ?_
  have hf := filled3 (Nat.le_refl w.heap.size) (by omega) HS1.out ((Touched.alloc w sc ztok).trans HT1.out) (.int .i64 (kd : Nat)) (.int .i64 (k : Nat)) (.string t)
  exact ⟨rfl, hf.1.alloc _, hf.2.trans (Touched.alloc _ _ _)⟩

end Go.Proofs.YtjlibnijecdgcaaGreatDoor

/- The contracts of the scanner's take and Next, whatever stands there. -/
namespace Go.Proofs.YtjlibnijecdgcaaGreatDoor
open Go.RowKit

/-- Is it a number that may stand behind a sharp? -/
def good (d : ByteArray) : Bool := (numOf d 99999).isSome

abbrev TakeOf (w : World) (sc : Nat) (s : ByteArray) (kd p' : Nat) (e : Ending) (w' : World) : Prop := e = .returned (.int .i64 (kd : Nat)) ∧ ScAt w' sc s p' ∧ Touched w sc w'

set_option maxRecDepth 100000 in
set_option maxHeartbeats 4000000 in
theorem stake_sharp (sc : Nat) (s : ByteArray) (p : Nat) (w : World) (h : ScAt w sc s p) (hs : s.size ≤ 200000) (hp : p < s.size) (ht : Tabs w) (hsc : 11 < sc) (hc : at_ s p = 35) (q : Nat) (hq : digitEnd s p = q) (kd : Nat) (hkd : kd = if good (s.extract (p + 1) q) = true then 5 else 6) :
    Calls Tryz.prog 74 #[.pointer (some ⟨sc, 0, none⟩)] w fun e w' => TakeOf w sc s kd q e w' := by
  have c0 := h.c0
  have c1 := h.c1
  have hlt := h.lt
  have f1 := h.f 1
  have HS := hide h
  have HT := hide ht
  have hat := at_eq hp
  have e0 : (((s[p]'hp).toNat : Int) == 40) = false := by rw [hat, hc]; rfl
  have e1 : (((s[p]'hp).toNat : Int) == 41) = false := by rw [hat, hc]; rfl
  have e2 : (((s[p]'hp).toNat : Int) == 35) = true := by rw [hat, hc]; rfl
  have K60 : Hid (∀ W, Calls Tryz.prog 91 #[.int .u8 ((s[p]'hp).toNat : Nat)] W fun e w' => e = .returned (.bool false) ∧ Below W.heap.size W w') := fun W => by
    have := isDigit_calls (at_ s p) W (at_lt s p)
    have hf : digitB (at_ s p) = false := by rw [hc]; rfl
    rw [hf] at this
    rw [hat]
    exact this
  have hge := digitEnd_ge s p
  have hle := digitEnd_le hp
  have HQ := hide hq
  have HKd := hide hkd
  rw [hq] at hge hle
  clear hat hc h ht hq hkd
  go_enter Tryz.func74, Tryz.ntmps74
  go_wp2_with fail
  go_quiet (fail)
  have HSt := hide (sc_step HS.out nq)
  go_wp2_with (go_at_call 91; refine (K60.out _).mono ?_)
  rintro e w2 ⟨rfl, hb2⟩
  have hS2 := HSt.out.1.below hb2
  have hT2 := HSt.out.2.later hb2
  have K55 := hide (skip_calls 91 digitB digit_tests sc s (p + 1) w2 hS2 hs (by omega) (HT.out.touched hT2 hsc) hsc)
  have HT2 := hide hT2
  clear hb2 hS2 hT2
  rw [show runTo digitB s (p + 1) = q from HQ.out] at K55
  go_wp2_with (go_at_call 72; refine K55.out.mono ?_)
  rintro e w3 ⟨rfl, hS3, hT3⟩
  have y0 := hS3.c0
  have y1 := hS3.c1
  have y2 := hS3.lt
  have hT4 := HT2.out.trans hT3
  have K42 : Hid (∀ W, Below w3.heap.size w3 W → Calls Tryz.prog 76 #[.string (s.extract (p + 1) q), .int .i64 99999] W fun e w' => e = .returned (.tuple #[.int .i64 ((numOf (s.extract (p + 1) q) 99999).getD 0), .bool (numOf (s.extract (p + 1) q) 99999).isSome]) ∧ Below W.heap.size W w') := fun W hW => number_calls (s.extract (p + 1) q) 99999 W (by rw [ByteArray.size_extract]; omega) (run_digs (by omega) HQ.out) ((HT.out.touched hT4 hsc).below hW (by omega))
  have HS3 := hide hS3
  have HT3 := hide hT4
  clear hS3 hT3 hT4
  have hgd : good (s.extract (p + 1) q) = (numOf (s.extract (p + 1) q) 99999).isSome := rfl
  cases hn : (numOf (s.extract (p + 1) q) 99999) with
  | none =>
    rw [hn] at hgd K42
    simp only [Option.isSome_none, Option.getD_none] at hgd K42
    have hk := HKd.out
    rw [hgd] at hk
    clear HKd
    simp at hk
    subst hk
    clear hgd hn
    go_wp2_with fail
    have q0 : ∀ x : Later w3.heap.size w3, x.W.cell? ⟨sc, 0, none⟩ = some _ := fun x => cell_later x.h y0
    have q1 : ∀ x : Later w3.heap.size w3, x.W.cell? ⟨sc, 1, none⟩ = some _ := fun x => cell_later x.h y1
    have hwr : IntKind.i64.wrap ((p : Int) + 1) = ((p + 1 : Nat) : Int) := by rw [IntKind.wrap_i64]; omega
    have hb1 : (0 : Int) ≤ (p : Int) + 1 := by omega
    have hb2 : (p : Int) + 1 ≤ (q : Int) := by omega
    refine wp_region_later (by kernel_rfl) (by kernel_rfl) (Below.refl w3.heap.size w3) ?_
    have hst := Later.some w3.heap.size w3
    iterate 11 quiet_step (fail)
    quiet_step (exact Later.calls K42.out (Nat.le_refl _) _)
    iterate 5 quiet_step (fail)
    refine wpQuiet_nil ?_
    intro _ hw'
    obtain ⟨x, rfl⟩ := hw'
    have hb4 := x.h
    have HS4 := hide (HS3.out.below hb4)
    have HT4 := hide (HT3.out.later hb4)
    clear hb4
    go_wp2_with fail
    go_ret
    exact ⟨rfl, HS4.out, HT4.out⟩
  | some v =>
    rw [hn] at hgd K42
    simp only [Option.isSome_some, Option.getD_some] at hgd K42
    have hk := HKd.out
    rw [hgd] at hk
    clear HKd
    simp at hk
    subst hk
    clear hgd hn
    go_wp2_with fail
    have q0 : ∀ x : Later w3.heap.size w3, x.W.cell? ⟨sc, 0, none⟩ = some _ := fun x => cell_later x.h y0
    have q1 : ∀ x : Later w3.heap.size w3, x.W.cell? ⟨sc, 1, none⟩ = some _ := fun x => cell_later x.h y1
    have hwr : IntKind.i64.wrap ((p : Int) + 1) = ((p + 1 : Nat) : Int) := by rw [IntKind.wrap_i64]; omega
    have hb1 : (0 : Int) ≤ (p : Int) + 1 := by omega
    have hb2 : (p : Int) + 1 ≤ (q : Int) := by omega
    refine wp_region_later (by kernel_rfl) (by kernel_rfl) (Below.refl w3.heap.size w3) ?_
    have hst := Later.some w3.heap.size w3
    iterate 11 quiet_step (fail)
    quiet_step (exact Later.calls K42.out (Nat.le_refl _) _)
    iterate 5 quiet_step (fail)
    refine wpQuiet_nil ?_
    intro _ hw'
    obtain ⟨x, rfl⟩ := hw'
    have hb4 := x.h
    have HS4 := hide (HS3.out.below hb4)
    have HT4 := hide (HT3.out.later hb4)
    clear hb4
    go_wp2_with fail
    go_ret
    exact ⟨rfl, HS4.out, HT4.out⟩

set_option maxRecDepth 100000 in
set_option maxHeartbeats 4000000 in
theorem stake_long (sc : Nat) (s : ByteArray) (p : Nat) (w : World) (h : ScAt w sc s p) (hs : s.size ≤ 200000) (hp : p < s.size) (ht : Tabs w) (hsc : 11 < sc) (h1 : nameB (at_ s p) true = true) (q : Nat) (hq : nameEnd s p = q) (hlong : ¬ q - p ≤ 40) :
    Calls Tryz.prog 74 #[.pointer (some ⟨sc, 0, none⟩)] w fun e w' => TakeOf w sc s 6 q e w' := by
  have c0 := h.c0
  have c1 := h.c1
  have hlt := h.lt
  have f1 := h.f 1
  have HS := hide h
  have HT := hide ht
  have hat := at_eq hp
  have hx := at_lt s p
  have hd : (97 ≤ at_ s p ∧ at_ s p ≤ 122) ∨ (65 ≤ at_ s p ∧ at_ s p ≤ 90) ∨ at_ s p = 95 := by
    have h9 := h1
    simp [nameB, letterB] at h9
    omega
  have e0 : (((s[p]'hp).toNat : Int) == 40) = false := by rw [hat]; simp; omega
  have e1 : (((s[p]'hp).toNat : Int) == 41) = false := by rw [hat]; simp; omega
  have e2 : (((s[p]'hp).toNat : Int) == 35) = false := by rw [hat]; simp; omega
  have K60 : Hid (∀ W, Calls Tryz.prog 91 #[.int .u8 ((s[p]'hp).toNat : Nat)] W fun e w' => e = .returned (.bool false) ∧ Below W.heap.size W w') := fun W => by
    have := isDigit_calls (at_ s p) W hx
    have hf : digitB (at_ s p) = false := by simp [digitB]; omega
    rw [hf] at this
    rw [hat]
    exact this
  have K62 : Hid (∀ W, Tabs W → Calls Tryz.prog 92 #[.int .u8 ((s[p]'hp).toNat : Nat)] W fun e w' => e = .returned (.bool true) ∧ Below W.heap.size W w') := fun W hW => by
    have := begin_tests (at_ s p) W hx hW
    rw [h1] at this
    rw [hat]
    exact this
  clear hat h1 hd h ht
  have hle := nameEnd_le hp
  have hge := nameEnd_ge s p
  have HQ := hide hq
  rw [hq] at hge hle
  clear hq
  go_enter Tryz.func74, Tryz.ntmps74
  go_wp2_with fail
  go_quiet (fail)
  have HSt := hide (sc_step HS.out nq)
  go_wp2_with (go_at_call 91; refine (K60.out _).mono ?_)
  rintro e w2 ⟨rfl, hb2⟩
  have hS2 := HSt.out.1.below hb2
  have hT2 := HSt.out.2.later hb2
  have K62' := hide (K62.out w2 (HT.out.touched hT2 hsc))
  have HS2 := hide hS2
  have HT2 := hide hT2
  clear hb2 hS2 hT2
  go_wp2_with (go_at_call 92; refine K62'.out.mono ?_)
  rintro e w3 ⟨rfl, hb3⟩
  have hS3 := HS2.out.below hb3
  have hT3 := HT2.out.later hb3
  have K55 := hide (skip_calls 93 (fun c => nameB c false) name_tests sc s (p + 1) w3 hS3 hs (by omega) (HT.out.touched hT3 hsc) hsc)
  have HT3 := hide hT3
  clear hb3 hS3 hT3
  rw [show runTo (fun c => nameB c false) s (p + 1) = q from HQ.out] at K55
  go_wp2_with (go_at_call 72; refine K55.out.mono ?_)
  rintro e w4 ⟨rfl, hS4, hT4⟩
  have y1 := hS4.c1
  have y2 := hS4.lt
  have e4 : decide ((q : Int) - (p : Int) ≤ 40) = false := by simp; omega
  have HS4 := hide hS4
  have HT4 := hide (HT3.out.trans hT4)
  clear hS4 hT4
  go_wp2_with fail
  go_ret
  exact ⟨rfl, HS4.out, HT4.out⟩

set_option maxRecDepth 100000 in
set_option maxHeartbeats 4000000 in
theorem stake_other (sc : Nat) (s : ByteArray) (p : Nat) (w : World) (h : ScAt w sc s p) (hs : s.size ≤ 200000) (hp : p < s.size) (ht : Tabs w) (hsc : 11 < sc) (h0 : at_ s p ≠ 40) (h1 : at_ s p ≠ 41) (h2 : digitB (at_ s p) = false) (h3 : at_ s p ≠ 35) (h4 : nameB (at_ s p) true = false) :
    Calls Tryz.prog 74 #[.pointer (some ⟨sc, 0, none⟩)] w fun e w' => TakeOf w sc s 6 (p + 1) e w' := by
  have c0 := h.c0
  have c1 := h.c1
  have hlt := h.lt
  have f1 := h.f 1
  have HS := hide h
  have HT := hide ht
  have hat := at_eq hp
  have hx := at_lt s p
  have e0 : (((s[p]'hp).toNat : Int) == 40) = false := by rw [hat]; simp; omega
  have e1 : (((s[p]'hp).toNat : Int) == 41) = false := by rw [hat]; simp; omega
  have e2 : (((s[p]'hp).toNat : Int) == 35) = false := by rw [hat]; simp; omega
  have K60 : Hid (∀ W, Calls Tryz.prog 91 #[.int .u8 ((s[p]'hp).toNat : Nat)] W fun e w' => e = .returned (.bool false) ∧ Below W.heap.size W w') := fun W => by
    have := isDigit_calls (at_ s p) W hx
    rw [h2] at this
    rw [hat]
    exact this
  have K62 : Hid (∀ W, Tabs W → Calls Tryz.prog 92 #[.int .u8 ((s[p]'hp).toNat : Nat)] W fun e w' => e = .returned (.bool false) ∧ Below W.heap.size W w') := fun W hW => by
    have := begin_tests (at_ s p) W hx hW
    rw [h4] at this
    rw [hat]
    exact this
  clear hat h1 h0 h2 h3 h4 h ht
  go_enter Tryz.func74, Tryz.ntmps74
  go_wp2_with fail
  go_quiet (fail)
  have HSt := hide (sc_step HS.out nq)
  go_wp2_with (go_at_call 91; refine (K60.out _).mono ?_)
  rintro e w2 ⟨rfl, hb2⟩
  have hS2 := HSt.out.1.below hb2
  have hT2 := HSt.out.2.later hb2
  have K62' := hide (K62.out w2 (HT.out.touched hT2 hsc))
  have HS2 := hide hS2
  have HT2 := hide hT2
  clear hb2 hS2 hT2
  go_wp2_with (go_at_call 92; refine K62'.out.mono ?_)
  rintro e w3 ⟨rfl, hb3⟩
  have HS3 := hide (HS2.out.below hb3)
  have HT3 := hide (HT2.out.later hb3)
  clear hb3
  go_wp2_with fail
  go_ret
  exact ⟨rfl, HS3.out, HT3.out⟩

/-- take, whatever stands there. -/
theorem stake_all (sc : Nat) (s : ByteArray) (p : Nat) (w : World) (h : ScAt w sc s p) (hs : s.size ≤ 200000) (hp : p < s.size) (ht : Tabs w) (hsc : 11 < sc) :
    Calls Tryz.prog 74 #[.pointer (some ⟨sc, 0, none⟩)] w fun e w' => TakeOf w sc s (scanAt good s p).1 (scanAt good s p).2 e w' := by
  unfold scanAt
  by_cases h0 : at_ s p = 40
  · rw [if_pos h0]; exact stake_calls sc s p 1 _ w h hs hp ht hsc (.inl ⟨h0, rfl, rfl⟩)
  rw [if_neg h0]
  by_cases h1 : at_ s p = 41
  · rw [if_pos h1]; exact stake_calls sc s p 2 _ w h hs hp ht hsc (.inr (.inl ⟨h1, rfl, rfl⟩))
  rw [if_neg h1]
  by_cases h2 : digitB (at_ s p) = true
  · rw [if_pos h2]; exact stake_calls sc s p 4 _ w h hs hp ht hsc (.inr (.inr (.inl ⟨h2, rfl, rfl⟩)))
  rw [if_neg h2]
  by_cases h3 : at_ s p = 35
  · rw [if_pos h3]; exact stake_sharp sc s p w h hs hp ht hsc h3 _ rfl _ rfl
  rw [if_neg h3]
  by_cases h4 : nameB (at_ s p) true = true
  · rw [if_pos h4]
    by_cases h5 : nameEnd s p - p ≤ 40
    · rw [if_pos h5]; exact stake_calls sc s p 3 _ w h hs hp ht hsc (.inr (.inr (.inr ⟨h4, rfl, rfl, h5⟩)))
    · rw [if_neg h5]; exact stake_long sc s p w h hs hp ht hsc h4 _ rfl h5
  · rw [if_neg h4]; exact stake_other sc s p w h hs hp ht hsc h0 h1 (by simpa using h2) h3 (by simpa using h4)

/-- The scanner's next token: its kind, where it begins, where it ends. -/
def ntok (s : ByteArray) (p : Nat) : Nat × Nat × Nat :=
  if runTo blankB s p = s.size then (0, s.size, s.size) else ((scanAt good s (runTo blankB s p)).1, runTo blankB s p, (scanAt good s (runTo blankB s p)).2)

theorem ntok_at {s : ByteArray} {p : Nat} : (ntok s p).2.1 = runTo blankB s p := by
  unfold ntok; split
  · rename_i e; exact e.symm
  · rfl

end Go.Proofs.YtjlibnijecdgcaaGreatDoor

/- What strconv.Atoi makes of digits. -/
namespace Go.Proofs.YtjlibnijecdgcaaGreatDoor
open Go.RowKit

theorem uint_step (acc : Nat) (c : UInt8) (r : List UInt8) : ∃ z, Lib.parseUint10 acc (c :: r) = if 48 ≤ c.toNat ∧ c.toNat ≤ 57 then if 1844674407370955162 ≤ acc then .range else if 18446744073709551616 ≤ acc * 10 + (c.toNat - 48) then .range else Lib.parseUint10 (acc * 10 + (c.toNat - 48)) r else z := ⟨_, rfl⟩

theorem small_step {acc x B : Nat} (hB : B ≤ 1000000000000) (h : (acc + 1) * 10 ≤ B) (hx : x ≤ 9) : ¬ 1844674407370955162 ≤ acc ∧ ¬ 18446744073709551616 ≤ acc * 10 + x := by omega

theorem uint_ok (l : List UInt8) : ∀ (acc B : Nat), (∀ c ∈ l, 48 ≤ c.toNat ∧ c.toNat ≤ 57) → B ≤ 1000000000000 → (acc + 1) * 10 ^ l.length ≤ B → Lib.parseUint10 acc l = .ok (decF acc l) := by
  induction l with
  | nil => intro acc B _ _ _; rfl
  | cons c r ih =>
    intro acc B h hB hb
    have hc := h c (by simp)
    rw [List.length_cons, Nat.pow_succ, pow_move] at hb
    have hp : 0 < 10 ^ r.length := Nat.pow_pos (by decide)
    have hx : acc * 10 + (c.toNat - 48) + 1 ≤ (acc + 1) * 10 := by clear hb hB ih h; omega
    have h2 : (acc + 1) * 10 ≤ B := Nat.le_trans (Nat.le_mul_of_pos_right _ hp) hb
    obtain ⟨c1, c2⟩ := small_step (x := c.toNat - 48) hB h2 (by clear hb hB ih h h2 hx hp; omega)
    have h3 := ih (acc * 10 + (c.toNat - 48)) B (fun x hx => h x (by simp [hx])) hB (Nat.le_trans (Nat.mul_le_mul_right (10 ^ r.length) hx) hb)
    obtain ⟨z, e⟩ := uint_step acc c r
    rw [if_pos hc, if_neg c1, if_neg c2, h3] at e
    exact e

theorem uint_is (l : List UInt8) : ∀ (acc u : Nat), (∀ c ∈ l, 48 ≤ c.toNat ∧ c.toNat ≤ 57) → Lib.parseUint10 acc l = .ok u → u = decF acc l := by
  induction l with
  | nil => intro acc u _ h; injection h with h; exact h.symm
  | cons c r ih =>
    intro acc u h hu
    have hc := h c (by simp)
    obtain ⟨z, e⟩ := uint_step acc c r
    rw [if_pos hc] at e
    by_cases c1 : 1844674407370955162 ≤ acc
    · rw [if_pos c1, hu] at e; cases e
    · rw [if_neg c1] at e
      by_cases c2 : 18446744073709551616 ≤ acc * 10 + (c.toNat - 48)
      · rw [if_pos c2, hu] at e; cases e
      · rw [if_neg c2, hu] at e
        exact ih _ u (fun x hx => h x (by simp [hx])) e.symm

theorem numOf_digits {d : ByteArray} (hg : Digs d) : numOf d 99999 = if d.size = 0 ∨ 5 < d.size ∨ (1 < d.size ∧ at_ d 0 = 48) then none else some ((decV d : Nat) : Int) := by
  have hlen : d.data.toList.length = d.size := by rw [Array.length_toList]; rfl
  unfold numOf decV
  by_cases h0 : 1 < d.size ∧ at_ d 0 = 48
  · rw [if_pos h0, if_pos (.inr (.inr h0))]
  rw [if_neg h0]
  have hfirst : 0 < d.size → d.data.toList[0]?.map (·.toNat) = some (at_ d 0) := fun h => by
    rw [at_data d 0 h, List.getElem?_eq_getElem (by rw [hlen]; exact h)]
    rfl
  unfold Digs at hg
  generalize hl : d.data.toList = l at *
  cases l with
  | nil =>
    have : d.size = 0 := by rw [← hlen]; rfl
    rw [if_pos (.inl this)]
    rfl
  | cons c r =>
    have hc := hg c (by simp)
    have hs : d.size = r.length + 1 := by rw [← hlen]; rfl
    rw [Lib.atoiAll_plain c r (by omega) (by omega)]
    have hm : Lib.parseMag (c :: r) = Lib.parseUint10 0 (c :: r) := by unfold Lib.parseMag; rw [if_neg (by simp)]
    rw [hm]
    by_cases h5 : 5 < d.size
    · rw [if_pos (.inr (.inl h5))]
      rcases digits_uint (c :: r) 0 hg with ⟨u, e⟩ | e
      · have e2 := uint_is _ 0 u hg e
        rw [e]
        unfold Lib.signless
        dsimp only
        have hat : at_ d 0 = c.toNat := by have := hfirst (by omega); simp at this; exact this.symm
        have hne : c.toNat ≠ 48 := fun e => h0 ⟨by omega, by rw [hat]; exact e⟩
        have hge := decF_ge r (c.toNat - 48)
        have h10 : 10 ^ 5 ≤ 10 ^ r.length := Nat.pow_le_pow_right (by decide) (by omega)
        have hc1 : 1 ≤ c.toNat - 48 := by omega
        have h11 : 1 * 10 ^ r.length ≤ (c.toNat - 48) * 10 ^ r.length := Nat.mul_le_mul_right _ hc1
        have e3 : decF 0 (c :: r) = decF (c.toNat - 48) r := by show decF (0 * 10 + (c.toNat - 48)) r = _; rw [Nat.zero_mul, Nat.zero_add]
        have h12 : 100000 ≤ u := by
          rw [e2, e3]
          rw [Nat.one_mul] at h11
          exact Nat.le_trans (Nat.le_trans (show 100000 ≤ 10 ^ 5 by decide) h10) (Nat.le_trans h11 hge)
        have hbig : 99999 < u := h12
        clear h10 h11 hge h12
        split
        · rename_i v hv
          split at hv
          · cases hv
          · injection hv with hv
            rw [if_pos (by omega)]
        · rfl
      · rw [e]; rfl
    · have hlt := decF_lt (c :: r) 0 hg
      have h10 : 10 ^ (c :: r).length ≤ 10 ^ 5 := Nat.pow_le_pow_right (by omega) (by simp; omega)
      have hok := uint_ok _ 0 (10 ^ 5) hg (by decide) (by rw [Nat.zero_add, Nat.one_mul]; exact h10)
      rw [hok, if_neg (by omega)]
      unfold Lib.signless
      dsimp only
      rw [if_neg (by omega)]
      dsimp only
      rw [if_neg (by omega)]

end Go.Proofs.YtjlibnijecdgcaaGreatDoor
