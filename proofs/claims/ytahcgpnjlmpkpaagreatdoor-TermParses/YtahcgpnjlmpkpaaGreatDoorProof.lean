/- TermParses holds, as a tied card: notation.Read, term.Parse, api.Code, the statement's faulty and termParsed, its loop; what the listed variables give the walk; the row; the card. Its listed variables are tied to the program's text (over the pruned copy of the project that this seat holds). -/
import Derived.Test.YtahcgpnjlmpkpaaGreatDoorCaught
import Derived.Defers
import Derived.Recover
import Derived.Test.YtahcgpnjlmpkpaaGreatDoorAs
import Derived.Test.YtahcgpnjlmpkpaaGreatDoorTParse
import Derived.Test.YtahcgpnjlmpkpaaGreatDoorRows
import Derived.LaidHandle
import Derived.LaidSub
import Derived.ProofKit
import Derived.OpenShut
import Derived.ShutString
import Derived.ChangeOld
import Derived.Below
import Derived.Deep.Slices
import Derived.LaidMore
import Derived.Stop.Joined
import Derived.Test.YtahcgpnjlmpkpaaGreatDoorTie
import Derived.Test.YtahcgpnjlmpkpaaGreatDoorCards
import Derived.SevenTiedAt
namespace Go.Proofs.YtahcgpnjlmpkpaaGreatDoor
open Go.RowKit

set_option maxHeartbeats 1000000 in
/-- Parse at a text that is no term. -/
theorem tparse_bad (s : ByteArray) (code a : Nat) (w : World) (ht : Tabs2 w) (K : ∀ W, Tabs2 W → Calls Tryz.prog 9 #[.string s, .int .i64 20000, .func (.func 10) #[] #[]] W fun e w' => Faulted W code a e w') :
    Calls Tryz.prog 5 #[.string s] w fun e w' => Faulted w code a e w' := by
  have K1 := hide (K _ (((ht.below ((Below.refl _ _).alloc (Nat.le_refl _) ztm) ht.lt))))
  clear K ht
  go_enter Tryz.func5, Tryz.ntmps5
  go_wp2_with (go_at_call 9; refine K1.out.mono ?_)
  rintro e w1 ⟨N, rfl, hF, hb⟩
  have hz := hb.size
  simp at hz
  have hlF : N < w1.heap.size := (Array.getElem?_eq_some_iff.1 hF).1
  have hb1 : w1.heap[w.heap.size]? = some (.cells #[.int .i64 0, .int .i64 0, .string ⟨#[]⟩, .slice none 0 0, .slice none 0 0] 30 (0, 0)) := by
    rw [hb.block w.heap.size (by simp)]
    exact heap_alloc_new w ztm
  have hN : N ≠ w.heap.size := fun e => by rw [e, hb1] at hF; simp at hF
  have d0 : w1.cell? ⟨w.heap.size, 0, none⟩ = some (.int .i64 0) := by simp [World.cell?, hb1]
  have d1 : w1.cell? ⟨w.heap.size, 1, none⟩ = some (.int .i64 0) := by simp [World.cell?, hb1]
  have d2 : w1.cell? ⟨w.heap.size, 2, none⟩ = some (.string ⟨#[]⟩) := by simp [World.cell?, hb1]
  have dx3 : w1.cell? ⟨w.heap.size, 3, none⟩ = some (.slice none 0 0) := by simp [World.cell?, hb1]
  have dx4 : w1.cell? ⟨w.heap.size, 4, none⟩ = some (.slice none 0 0) := by simp [World.cell?, hb1]
  have d3 : ∀ i, w1.frozen? ⟨w.heap.size, i, none⟩ = false := fun i => by simp [World.frozen?, hb1]
  have d4 : w.heap.size < w1.heap.size := by omega
  have HF : Hid ((((((w1.setCell ⟨w.heap.size, 0, none⟩ (.int .i64 0)).setCell ⟨w.heap.size, 1, none⟩ (.int .i64 0)).setCell ⟨w.heap.size, 2, none⟩ (.string ⟨#[]⟩)).setCell ⟨w.heap.size, 3, none⟩ (.slice none 0 0)).setCell ⟨w.heap.size, 4, none⟩ (.slice none 0 0)).heap[N]? = some (.cells #[.int .i64 (code : Nat), .int .i64 (a : Nat)] 36 (0, 0))) := by
    unfold Hid
    rw [Below.heap_setCell _ _ _ _ (by show N ≠ w.heap.size; exact hN), Below.heap_setCell _ _ _ _ (by show N ≠ w.heap.size; exact hN), Below.heap_setCell _ _ _ _ (by show N ≠ w.heap.size; exact hN), Below.heap_setCell _ _ _ _ (by show N ≠ w.heap.size; exact hN), Below.heap_setCell _ _ _ _ (by show N ≠ w.heap.size; exact hN)]
    exact hF
  have HB : Hid (Below w.heap.size w (((((w1.setCell ⟨w.heap.size, 0, none⟩ (.int .i64 0)).setCell ⟨w.heap.size, 1, none⟩ (.int .i64 0)).setCell ⟨w.heap.size, 2, none⟩ (.string ⟨#[]⟩)).setCell ⟨w.heap.size, 3, none⟩ (.slice none 0 0)).setCell ⟨w.heap.size, 4, none⟩ (.slice none 0 0))) :=
    ((((((((Below.refl w.heap.size w).alloc (Nat.le_refl _) ztm).trans (hb.mono (by simp))).setCell (p := ⟨w.heap.size, 0, none⟩) (Nat.le_refl _) _).setCell (p := ⟨w.heap.size, 1, none⟩) (Nat.le_refl _) _).setCell (p := ⟨w.heap.size, 2, none⟩) (Nat.le_refl _) _).setCell (p := ⟨w.heap.size, 3, none⟩) (Nat.le_refl _) _).setCell (p := ⟨w.heap.size, 4, none⟩) (Nat.le_refl _) _)
  clear hF hb hb1 hN hlF
  go_wp2_with fail
  refine bodyPost_ret (v := .tuple #[.agg #[.int .i64 0, .int .i64 0, .string ⟨#[]⟩, .slice none 0 0, .slice none 0 0], .iface 71 (.pointer (some ⟨N, 0, none⟩))]) (by simp [results, Tryz.results5, go_sem, d0, d1, d2, dx3, dx4]) rfl ?_
  exact ⟨N, rfl, HF.out, HB.out⟩

set_option maxHeartbeats 1000000 in
/-- Parse at a text that is a term. -/
theorem tparse_good (s : ByteArray) (dd : Nat) (t : Tm) (p' : Nat) (w : World) (hs : s.size ≤ 20000) (hr : RT s dd t 0 p') (he : runTo blankB s p' = s.size) (ht : Tabs2 w) :
    Calls Tryz.prog 5 #[.string s] w fun e w' => ∃ (k n : Int) (nm : ByteArray) (A : Option Addr) (la lc : Nat) (A' : Option Addr) (ta tc : Nat), e = .returned (.tuple #[.agg #[.int .i64 k, .int .i64 n, .string nm, .slice A la lc, .slice A' ta tc], .nilIface]) ∧ InTm w' (fun _ => True) dd t (.agg #[.int .i64 k, .int .i64 n, .string nm, .slice A la lc, .slice A' ta tc]) ∧ Below w.heap.size w w' := by
  have K1 := hide (read_calls s dd t _ _ hs hr he (ht.below ((Below.refl _ _).alloc (Nat.le_refl _) ztm) ht.lt))
  clear hr he ht hs
  go_enter Tryz.func5, Tryz.ntmps5
  go_wp2_with (go_at_call 9; refine K1.out.mono ?_)
  rintro e w1 ⟨k, n, nm, A, la, lc, A', ta, tc, rfl, hin, hb⟩
  have hz := hb.size
  simp at hz
  have hb1 : w1.heap[w.heap.size]? = some (.cells #[.int .i64 0, .int .i64 0, .string ⟨#[]⟩, .slice none 0 0, .slice none 0 0] 30 (0, 0)) := by
    rw [hb.block w.heap.size (by simp)]
    exact heap_alloc_new w ztm
  have d0 : w1.cell? ⟨w.heap.size, 0, none⟩ = some (.int .i64 0) := by simp [World.cell?, hb1]
  have d1 : w1.cell? ⟨w.heap.size, 1, none⟩ = some (.int .i64 0) := by simp [World.cell?, hb1]
  have d2 : w1.cell? ⟨w.heap.size, 2, none⟩ = some (.string ⟨#[]⟩) := by simp [World.cell?, hb1]
  have dx3 : w1.cell? ⟨w.heap.size, 3, none⟩ = some (.slice none 0 0) := by simp [World.cell?, hb1]
  have dx4 : w1.cell? ⟨w.heap.size, 4, none⟩ = some (.slice none 0 0) := by simp [World.cell?, hb1]
  have d3 : ∀ i, w1.frozen? ⟨w.heap.size, i, none⟩ = false := fun i => by simp [World.frozen?, hb1]
  have d4 : w.heap.size < w1.heap.size := by omega
  have HF : Hid (InTm ((((((w1.setCell ⟨w.heap.size, 0, none⟩ (.int .i64 k)).setCell ⟨w.heap.size, 1, none⟩ (.int .i64 n)).setCell ⟨w.heap.size, 2, none⟩ (.string nm)).setCell ⟨w.heap.size, 3, none⟩ (.slice A la lc)).setCell ⟨w.heap.size, 4, none⟩ (.slice A' ta tc))) (fun _ => True) dd t (.agg #[.int .i64 k, .int .i64 n, .string nm, .slice A la lc, .slice A' ta tc])) :=
    (hin.keep (S' := fun _ => True) fun b _ hb => ⟨trivial, by
      have hb' : w.heap.size + 1 ≤ b := by simpa using hb
      rw [Below.heap_setCell _ _ _ _ (by show b ≠ w.heap.size; omega), Below.heap_setCell _ _ _ _ (by show b ≠ w.heap.size; omega), Below.heap_setCell _ _ _ _ (by show b ≠ w.heap.size; omega), Below.heap_setCell _ _ _ _ (by show b ≠ w.heap.size; omega), Below.heap_setCell _ _ _ _ (by show b ≠ w.heap.size; omega)]⟩)
  have HB : Hid (Below w.heap.size w (((((w1.setCell ⟨w.heap.size, 0, none⟩ (.int .i64 k)).setCell ⟨w.heap.size, 1, none⟩ (.int .i64 n)).setCell ⟨w.heap.size, 2, none⟩ (.string nm)).setCell ⟨w.heap.size, 3, none⟩ (.slice A la lc)).setCell ⟨w.heap.size, 4, none⟩ (.slice A' ta tc))) :=
    ((((((((Below.refl w.heap.size w).alloc (Nat.le_refl _) ztm).trans (hb.mono (by simp))).setCell (p := ⟨w.heap.size, 0, none⟩) (Nat.le_refl _) _).setCell (p := ⟨w.heap.size, 1, none⟩) (Nat.le_refl _) _).setCell (p := ⟨w.heap.size, 2, none⟩) (Nat.le_refl _) _).setCell (p := ⟨w.heap.size, 3, none⟩) (Nat.le_refl _) _).setCell (p := ⟨w.heap.size, 4, none⟩) (Nat.le_refl _) _)
  clear hin hb hb1
  go_wp2_with fail
  refine bodyPost_ret (v := .tuple #[.agg #[.int .i64 k, .int .i64 n, .string nm, .slice A la lc, .slice A' ta tc], .nilIface]) (by simp [results, Tryz.results5, go_sem, d0, d1, d2, dx3, dx4]) rfl ?_
  exact ⟨k, n, nm, A, la, lc, A', ta, tc, rfl, HF.out, HB.out⟩

end Go.Proofs.YtahcgpnjlmpkpaaGreatDoor

namespace Go.Proofs.YtahcgpnjlmpkpaaGreatDoor
open Go.RowKit

/-- errors.As finds the fault. -/
theorem as_fault (N t : Nat) (w : World) (hg : Tabs w) (ht : w.heap[t]? = some (.cells #[.pointer none] 71 (0, 0))) :
    Calls Tryz.prog 29 #[.iface 71 (.pointer (some ⟨N, 0, none⟩)), .iface 73 (.pointer (some ⟨t, 0, none⟩))] w fun e w' => e = .returned (.bool true) ∧ w'.heap[t]? = some (.cells #[.pointer (some ⟨N, 0, none⟩)] 71 (0, 0)) ∧ Touched w t w' := by
  have hlt : t < w.heap.size := (Array.getElem?_eq_some_iff.1 ht).1
  refine (as_hit ⟨N, 0, none⟩ ⟨t, 0, none⟩ (.pointer none) w hg.ty (by simp [World.cell?, ht]) (by simp [World.frozen?, ht])).mono ?_
  rintro e w' ⟨rfl, rfl⟩
  refine ⟨rfl, ?_, ?_⟩
  · have h4 : ((((w.alloc (.cells #[.pointer (some ⟨t, 0, none⟩)] 73)).alloc (.cells #[.pointer (some ⟨11, 73, none⟩), .pointer (some ⟨w.heap.size, 0, none⟩), .int .u64 150] 91)).alloc (.cells #[.pointer (some ⟨11, 73, none⟩), .pointer (some ⟨w.heap.size, 0, none⟩), .int .u64 150] 91)).alloc (.cells #[.pointer (some ⟨N, 0, none⟩)] 71)).heap[t]? = some (.cells #[.pointer none] 71 (0, 0)) := by
      rw [Below.heap_alloc _ _ _ (by simp; omega), Below.heap_alloc _ _ _ (by simp; omega), Below.heap_alloc _ _ _ (by simp; omega), Below.heap_alloc _ _ _ hlt]
      exact ht
    generalize ((((w.alloc _).alloc _).alloc _).alloc _) = W at h4 ⊢
    simp [World.setCell, Array.getElem?_modify, h4]
  · exact ((((Touched.alloc w t _).trans (Touched.alloc _ t _)).trans (Touched.alloc _ t _)).trans (Touched.alloc _ t _)).setSelf rfl _

set_option maxHeartbeats 1000000 in
theorem code_nil (w : World) : Calls Tryz.prog 13 #[.nilIface] w fun e w' => e = .returned (.tuple #[.int .i64 0, .int .i64 0]) ∧ w' = w := by
  go_enter Tryz.func13, Tryz.ntmps13
  go_wp2_with fail
  go_ret2
  exact ⟨rfl, rfl⟩

set_option maxRecDepth 100000 in
set_option maxHeartbeats 4000000 in
theorem code_fault (N code a : Nat) (w : World) (hg : Tabs w) (hF : w.heap[N]? = some (.cells #[.int .i64 (code : Nat), .int .i64 (a : Nat)] 36 (0, 0))) :
    Calls Tryz.prog 13 #[.iface 71 (.pointer (some ⟨N, 0, none⟩))] w fun e w' => e = .returned (.tuple #[.int .i64 (code : Nat), .int .i64 (a : Nat)]) ∧ Below w.heap.size w w' := by
  have hlN : N < w.heap.size := (Array.getElem?_eq_some_iff.1 hF).1
  have K1 := hide (as_fault N w.heap.size _ (hg.below ((Below.refl _ _).alloc (Nat.le_refl _) (.cells #[.pointer none] 71)) hg.lt) (heap_alloc_new w (.cells #[.pointer none] 71)))
  have HF := hide hF
  clear hg hF
  go_enter Tryz.func13, Tryz.ntmps13
  go_wp2_with (go_at_call 29; refine K1.out.mono ?_)
  rintro e w1 ⟨rfl, h1, hT⟩
  have hz := hT.size
  simp at hz
  have hN1 : w1.heap[N]? = some (.cells #[.int .i64 (code : Nat), .int .i64 (a : Nat)] 36 (0, 0)) := by
    rw [hT.block N (by simp; omega) (by simp; omega), Below.heap_alloc _ _ _ hlN]
    exact HF.out
  have x0 : w1.cell? ⟨w.heap.size, 0, none⟩ = some (.pointer (some ⟨N, 0, none⟩)) := by simp [World.cell?, h1]
  have y0 : w1.cell? ⟨N, 0, none⟩ = some (.int .i64 (code : Nat)) := by simp [World.cell?, hN1]
  have y1 : w1.cell? ⟨N, 1, none⟩ = some (.int .i64 (a : Nat)) := by simp [World.cell?, hN1]
  have HB : Hid (Below w.heap.size w w1) := ((Touched.alloc w w.heap.size _).trans hT).below (Nat.le_refl _) (Nat.le_refl _)
  clear hN1 h1 hT
  go_wp2_with fail
  go_region
  all_goals
    go_wp2_with fail
    go_ret2
    exact ⟨rfl, HB.out.drew⟩

set_option maxHeartbeats 1000000 in
theorem faulty_none (a : Nat) (w : World) : Calls Tryz.prog 7 #[.nilIface, .agg #[.int .i64 (0 : Nat), .int .i64 (a : Nat)]] w fun e w' => e = .returned (.bool true) ∧ Below w.heap.size w w' := by
  have K := hide (fun W => code_nil W)
  go_enter Tryz.func7, Tryz.ntmps7
  go_wp2_with (go_at_call 13; refine (K.out _).mono ?_)
  rintro e w' ⟨rfl, rfl⟩
  go_wp2_with fail
  go_ret
  exact ⟨rfl, (Below.refl _ _).alloc (Nat.le_refl _) _⟩

set_option maxHeartbeats 1000000 in
theorem faulty_same (N code a : Nat) (w : World) (hg : Tabs w) (hF : w.heap[N]? = some (.cells #[.int .i64 (code : Nat), .int .i64 (a : Nat)] 36 (0, 0))) (hc : code ≠ 0) :
    Calls Tryz.prog 7 #[.iface 71 (.pointer (some ⟨N, 0, none⟩)), .agg #[.int .i64 (code : Nat), .int .i64 (a : Nat)]] w fun e w' => e = .returned (.bool true) ∧ Below w.heap.size w w' := by
  have hlN : N < w.heap.size := (Array.getElem?_eq_some_iff.1 hF).1
  have K := hide (code_fault N code a (w.alloc (.cells #[.int .i64 (code : Nat), .int .i64 (a : Nat)] 36)) (hg.below ((Below.refl _ _).alloc (Nat.le_refl _) _) hg.lt) (by rw [Below.heap_alloc _ _ _ hlN]; exact hF))
  have e0 : ((code : Int) == 0) = false := by simp; omega
  clear hg hF hc
  go_enter Tryz.func7, Tryz.ntmps7
  go_wp2_with (go_at_call 13; refine K.out.mono ?_)
  rintro e w1 ⟨rfl, hb⟩
  have x0 : w1.cell? ⟨w.heap.size, 0, none⟩ = some (.int .i64 (code : Nat)) := by rw [hb.cell (by simp)]; simp
  have x1 : w1.cell? ⟨w.heap.size, 1, none⟩ = some (.int .i64 (a : Nat)) := by rw [hb.cell (by simp)]; simp
  have HB : Hid (Below w.heap.size w w1) := ((Below.refl w.heap.size w).alloc (Nat.le_refl _) _).trans (hb.mono (by simp))
  clear hb
  go_wp2_with fail
  go_ret
  exact ⟨by simp, HB.out⟩

/-- All that is listed and read. -/
structure All (w : World) (wb wo wc : Nat) : Prop where
  t : Tabs2 w
  d : WordsAt w wb wo wc
theorem All.lt {w : World} {wb wo wc : Nat} (h : All w wb wo wc) : 6 < w.heap.size := h.t.lt
theorem All.later {w w' : World} {wb wo wc : Nat} (h : All w wb wo wc) (hb : Below w.heap.size w w') : All w' wb wo wc := ⟨h.t.below hb h.lt, h.d.of_blocks (hb.block _ h.d.lt.1) (hb.block _ h.d.lt.2)⟩

/-- The zero term. -/
abbrev zeroT : Tm := .node 0 0 ⟨#[]⟩ [] []
theorem zeroT_in (w : World) : InTm w (fun _ => True) 1 zeroT (.agg #[.int .i64 0, .int .i64 0, .string ⟨#[]⟩, .slice none 0 0, .slice none 0 0]) := ⟨none, 0, none, 0, rfl, fun i hi => absurd hi (by simp [Tm.ls]), fun i hi => absurd hi (by simp [Tm.ts])⟩
theorem zeroT_small : SmallT 1 zeroT := ⟨by simp [Tm.kd], by simp [Tm.n], by simp [Tm.ls], by simp [Tm.ts], fun i hi => absurd hi (by simp [Tm.ts])⟩

/-- What the statement's step comes to, whatever the text is: a value and an error of the program, the same value and the same fault of the document. -/
structure Answers (s : ByteArray) (wb wo wc : Nat) (t : Tm) (ev : World → Value → Prop) (code a : Nat) : Prop where
  prog : ∀ W, All W wb wo wc → Calls Tryz.prog 5 #[.string s] W fun e w' => ∃ (k n : Int) (nm : ByteArray) (A : Option Addr) (la lc : Nat) (A' : Option Addr) (ta tc d : Nat) (er : Value), e = .returned (.tuple #[.agg #[.int .i64 k, .int .i64 n, .string nm, .slice A la lc, .slice A' ta tc], er]) ∧ (er = .nilIface ∨ ∃ T v, er = .iface T v) ∧ InTm w' (fun _ => True) d t (.agg #[.int .i64 k, .int .i64 n, .string nm, .slice A la lc, .slice A' ta tc]) ∧ ev w' er ∧ Below W.heap.size W w'
  doc : ∀ W, All W wb wo wc → Calls Tryz.prog 6 #[.string s] W fun e w' => ∃ (k n : Int) (nm : ByteArray) (A : Option Addr) (la lc : Nat) (A' : Option Addr) (ta tc d a' : Nat), e = .returned (.tuple #[.agg #[.int .i64 k, .int .i64 n, .string nm, .slice A la lc, .slice A' ta tc], .agg #[.int .i64 (code : Nat), .int .i64 (a' : Nat)]]) ∧ (code ≠ 0 → a' = a) ∧ InTm w' (fun _ => True) d t (.agg #[.int .i64 k, .int .i64 n, .string nm, .slice A la lc, .slice A' ta tc]) ∧ Below W.heap.size W w'
  keep : ∀ W W' v, ev W v → Below W.heap.size W W' → ev W' v
  test : ∀ W a' v, Tabs W → ev W v → (code ≠ 0 → a' = a) → Calls Tryz.prog 7 #[v, .agg #[.int .i64 (code : Nat), .int .i64 (a' : Nat)]] W fun e w' => e = .returned (.bool true) ∧ Below W.heap.size W w'

/-- The error is that fault. -/
def IsFault (code a : Nat) (W : World) (v : Value) : Prop := ∃ N : Nat, v = .iface 71 (.pointer (some ⟨N, 0, none⟩)) ∧ W.heap[N]? = some (.cells #[.int .i64 (code : Nat), .int .i64 (a : Nat)] 36 (0, 0))

theorem IsFault.answers {s : ByteArray} {wb wo wc code a : Nat} (hc : code ≠ 0) (hp : ∀ W, All W wb wo wc → Calls Tryz.prog 5 #[.string s] W fun e w' => Faulted W code a e w')
    (hd : ∀ W, All W wb wo wc → Calls Tryz.prog 6 #[.string s] W fun e w' => e = .returned (.tuple #[.agg #[.int .i64 0, .int .i64 0, .string ⟨#[]⟩, .slice none 0 0, .slice none 0 0], .agg #[.int .i64 (code : Nat), .int .i64 (a : Nat)]]) ∧ Below W.heap.size W w') : Answers s wb wo wc zeroT (IsFault code a) code a where
  prog W hW := (hp W hW).mono fun e w' ⟨N, he, hF, hb⟩ => ⟨0, 0, ⟨#[]⟩, none, 0, 0, none, 0, 0, 1, _, he, .inr ⟨_, _, rfl⟩, zeroT_in w', ⟨N, rfl, hF⟩, hb⟩
  doc W hW := (hd W hW).mono fun e w' ⟨he, hb⟩ => ⟨0, 0, ⟨#[]⟩, none, 0, 0, none, 0, 0, 1, a, he, fun _ => rfl, zeroT_in w', hb⟩
  keep W W' v := by
    rintro ⟨N, rfl, hF⟩ hb
    exact ⟨N, rfl, by rw [hb.block N (Array.getElem?_eq_some_iff.1 hF).1]; exact hF⟩
  test W a' v hT := by
    rintro ⟨N, rfl, hF⟩ ha
    rw [ha hc]
    exact faulty_same N code a W hT hF hc

/-- Every text has its answer. -/
theorem answers (s : ByteArray) (hm : s.size ≤ maxLen) (wb wo wc : Nat) (W0 : World) (h0 : All W0 wb wo wc) : ∃ t ev code a N, Answers s wb wo wc t ev code a ∧ SmallT N t := by
  by_cases hs : s.size ≤ 20000
  · obtain ⟨e, w', fr, hP, _⟩ := tparse_short s wb wo wc W0 hs h0.d []
    obtain ⟨k, n, nm, A, la, lc, A', ta, tc, c, a, _, _, h0', h1⟩ := hP
    by_cases hc : c = 0
    · obtain ⟨_, d, t, _, hRt⟩ := h0' hc
      obtain ⟨dd, p', hr, he⟩ := hRt
      refine ⟨t, fun _ v => v = .nilIface, 0, 0, dd, ⟨fun W hW => ?_, fun W hW => ?_, fun _ _ _ h _ => h, fun W a' v _ hv _ => by rw [hv]; exact faulty_none a' W⟩, RT.small hs hr⟩
      · exact (tparse_good s dd t p' W hs hr he hW.t).mono fun e w' ⟨k, n, nm, A, la, lc, A', ta, tc, he, hi, hb⟩ => ⟨k, n, nm, A, la, lc, A', ta, tc, dd, _, he, .inl rfl, hi, rfl, hb⟩
      · refine (tparse_short s wb wo wc W hs hW.d).mono ?_
        rintro e w' ⟨k, n, nm, A, la, lc, A', ta, tc, c, a, rfl, hb, g0, g1⟩
        by_cases hc' : c = 0
        · obtain ⟨_, d', t', hi, hR'⟩ := g0 hc'
          have := TRight.unique ⟨dd, p', hr, he⟩ hR'
          subst this hc'
          exact ⟨k, n, nm, A, la, lc, A', ta, tc, d', a, rfl, fun h => absurd rfl h, hi, hb⟩
        · rcases (g1 hc').2 with ⟨h, _⟩ | ⟨_, _, hw⟩
          · omega
          · exact absurd hw (TRight.no ⟨dd, p', hr, he⟩)
    · rcases (h1 hc).2 with ⟨h, _⟩ | ⟨_, _, hw⟩
      · omega
      · refine ⟨zeroT, _, 1, a, 1, IsFault.answers (by decide) (fun W hW => tparse_bad s 1 a W hW.t fun W' hW' => ?_) fun W hW => ?_, zeroT_small⟩
        · rcases hw with ⟨dd, hf⟩ | ⟨dd, t, p', hr, hne, rfl⟩
          · exact read_fails s dd a W' hs hf hW'
          · exact read_more s dd t p' W' hs hr hne hW'
        · refine (tparse_short s wb wo wc W hs hW.d).mono ?_
          rintro e w' ⟨k, n, nm, A, la, lc, A', ta, tc, c, a', rfl, hb, g0, g1⟩
          by_cases hc' : c = 0
          · obtain ⟨_, d', t', hi, hR'⟩ := g0 hc'
            exact absurd hw (TRight.no hR')
          · obtain ⟨⟨rfl, rfl, rfl, rfl, rfl, rfl, rfl, rfl, rfl⟩, h⟩ := g1 hc'
            rcases h with ⟨h, _⟩ | ⟨_, rfl, hw'⟩
            · omega
            · rw [hw'.unique hw]
              exact ⟨rfl, hb⟩
  · refine ⟨zeroT, _, 2, 0, 1, IsFault.answers (by decide) (fun W hW => tparse_bad s 2 0 W hW.t fun W' _ => read_long s W' (by omega) hm) fun W _ => ?_, zeroT_small⟩
    refine (tparse_long s W (by omega) hm).mono ?_
    rintro e w' ⟨k, n, nm, A, la, lc, A', ta, tc, c, a', rfl, hb, g0, g1⟩
    by_cases hc' : c = 0
    · have := (g0 hc').1; omega
    · obtain ⟨⟨rfl, rfl, rfl, rfl, rfl, rfl, rfl, rfl, rfl⟩, h⟩ := g1 hc'
      rcases h with ⟨_, rfl, rfl⟩ | ⟨h, _⟩
      · exact ⟨rfl, hb⟩
      · omega

set_option maxRecDepth 100000 in
set_option maxHeartbeats 4000000 in
theorem termParsed_calls (s : ByteArray) (wb wo wc : Nat) (w : World) (hm : s.size ≤ maxLen) (ht : All w wb wo wc) : Calls Tryz.prog 4 #[.string s] w fun e w' => e = .returned (.bool true) ∧ Below w.heap.size w w' := by
  obtain ⟨t, ev, code, a, N, hA, hl⟩ := answers s hm wb wo wc w ht
  have K5 := hide (hA.prog w ht)
  have HA := hide hA
  have HTb := hide ht
  have hlt := ht.lt
  clear hA ht
  go_enter Tryz.func4, Tryz.ntmps4
  go_wp2_with (go_at_call 5; refine K5.out.mono ?_)
  rintro e w1 ⟨k, n, nm, A, la, lc, A', ta, tc, d1, er, rfl, her, hin1, hev1, hb1⟩
  have hba0 : Below w1.heap.size w1 (w1.alloc (.cells #[.int .i64 k, .int .i64 n, .string nm, .slice A la lc, .slice A' ta tc] 30)) := (Below.refl _ _).alloc (Nat.le_refl _) _
  have K6 := hide (HA.out.doc (w1.alloc (.cells #[.int .i64 k, .int .i64 n, .string nm, .slice A la lc, .slice A' ta tc] 30)) ((HTb.out.later hb1).later hba0))
  have HI1 := hide hin1
  have HE1 := hide hev1
  have HB1 := hide hb1
  have hz1 := hb1.size
  have HEr := hide her
  clear hin1 hev1 hb1 her hba0
  go_wp2_with (go_at_call 6; refine K6.out.mono ?_)
  rintro e w2 ⟨k2, n2, nm2, A2, la2, lc2, A3, ta2, tc2, dd2, a2, rfl, ha2, hin2, hb2⟩
  have hz2 := hb2.size
  simp at hz2
  have hba : Below w1.heap.size w1 (w1.alloc (.cells #[.int .i64 k, .int .i64 n, .string nm, .slice A la lc, .slice A' ta tc] 30)) := (Below.refl _ _).alloc (Nat.le_refl _) _
  have hw2 : Below w1.heap.size w1 w2 := hba.trans (hb2.mono (by simp))
  have hw3 : Below w2.heap.size w2 ((w2.alloc (.cells #[.int .i64 k2, .int .i64 n2, .string nm2, .slice A2 la2 lc2, .slice A3 ta2 tc2] 30)).alloc (.cells #[.int .i64 (code : Nat), .int .i64 (a2 : Nat)] 36)) := ((Below.refl _ _).alloc (Nat.le_refl _) _).alloc (by simp) _
  have hold : Below w.heap.size w w2 := HB1.out.trans (hw2.mono hz1)
  have hT3 : Tabs ((w2.alloc (.cells #[.int .i64 k2, .int .i64 n2, .string nm2, .slice A2 la2 lc2, .slice A3 ta2 tc2] 30)).alloc (.cells #[.int .i64 (code : Nat), .int .i64 (a2 : Nat)] 36)) := ((HTb.out.later hold).later hw3).t.a
  have K7 := hide (HA.out.test _ a2 er hT3 (HA.out.keep _ _ _ (HA.out.keep _ _ _ HE1.out hw2) hw3) ha2)
  have x0 : w2.cell? ⟨w1.heap.size, 0, none⟩ = some (.int .i64 k) := by rw [hb2.cell (by simp)]; simp
  have x1 : w2.cell? ⟨w1.heap.size, 1, none⟩ = some (.int .i64 n) := by rw [hb2.cell (by simp)]; simp
  have x2 : w2.cell? ⟨w1.heap.size, 2, none⟩ = some (.string nm) := by rw [hb2.cell (by simp)]; simp
  have x3 : w2.cell? ⟨w1.heap.size, 3, none⟩ = some (.slice A la lc) := by rw [hb2.cell (by simp)]; simp
  have x4 : w2.cell? ⟨w1.heap.size, 4, none⟩ = some (.slice A' ta tc) := by rw [hb2.cell (by simp)]; simp
  have HW2 := hide hw2
  have HW3 := hide hw3
  have HO := hide hold
  have HI2 := hide hin2
  clear hba hw2 hw3 hold hT3 hb2 hin2 ha2
  go_wp2_with (go_at_call 7; refine K7.out.mono ?_)
  rintro e w4 ⟨rfl, hb4⟩
  have hz4 := hb4.size
  simp at hz4
  have hw4 : Below w2.heap.size w2 w4 := HW3.out.trans (hb4.mono (by simp; omega))
  have y0 : w4.cell? ⟨w1.heap.size, 0, none⟩ = some (.int .i64 k) := by rw [hw4.cell (by show w1.heap.size < w2.heap.size; omega)]; exact x0
  have y1 : w4.cell? ⟨w1.heap.size, 1, none⟩ = some (.int .i64 n) := by rw [hw4.cell (by show w1.heap.size < w2.heap.size; omega)]; exact x1
  have y2 : w4.cell? ⟨w1.heap.size, 2, none⟩ = some (.string nm) := by rw [hw4.cell (by show w1.heap.size < w2.heap.size; omega)]; exact x2
  have y3 : w4.cell? ⟨w1.heap.size, 3, none⟩ = some (.slice A la lc) := by rw [hw4.cell (by show w1.heap.size < w2.heap.size; omega)]; exact x3
  have y4 : w4.cell? ⟨w1.heap.size, 4, none⟩ = some (.slice A' ta tc) := by rw [hw4.cell (by show w1.heap.size < w2.heap.size; omega)]; exact x4
  have z0 : w4.cell? ⟨w2.heap.size, 0, none⟩ = some (.int .i64 k2) := by rw [hb4.cell (by simp; omega), World.cell?_alloc_past _ _ _ (by simp)]; simp
  have z1 : w4.cell? ⟨w2.heap.size, 1, none⟩ = some (.int .i64 n2) := by rw [hb4.cell (by simp; omega), World.cell?_alloc_past _ _ _ (by simp)]; simp
  have z2 : w4.cell? ⟨w2.heap.size, 2, none⟩ = some (.string nm2) := by rw [hb4.cell (by simp; omega), World.cell?_alloc_past _ _ _ (by simp)]; simp
  have z3 : w4.cell? ⟨w2.heap.size, 3, none⟩ = some (.slice A2 la2 lc2) := by rw [hb4.cell (by simp; omega), World.cell?_alloc_past _ _ _ (by simp)]; simp
  have z4 : w4.cell? ⟨w2.heap.size, 4, none⟩ = some (.slice A3 ta2 tc2) := by rw [hb4.cell (by simp; omega), World.cell?_alloc_past _ _ _ (by simp)]; simp
  have hwa : Below w1.heap.size w1 w4 := HW2.out.trans (hw4.mono HW2.out.size)
  have K8 := hide (sameTerm_calls N t k n nm A la lc A' ta tc k2 n2 nm2 A2 la2 lc2 A3 ta2 tc2 d1 dd2 (fun _ => True) (fun _ => True) w4 hl (HI1.out.keep fun b hb _ => ⟨trivial, hwa.block b hb⟩) (HI2.out.keep fun b hb _ => ⟨trivial, hw4.block b hb⟩))
  have HO4 := hide (HO.out.trans (hw4.mono HO.out.size))
  clear hb4 hw4 hwa x0 x1 x2 x3 x4
  go_wp2_with (go_at_call 8; refine K8.out.mono ?_)
  rintro e w5 ⟨rfl, hb5⟩
  have HO5 := hide (HO4.out.trans (hb5.mono HO4.out.size))
  clear hb5
  go_wp2_with fail
  go_ret
  exact ⟨rfl, HO5.out⟩

end Go.Proofs.YtahcgpnjlmpkpaaGreatDoor

namespace Go.Proofs.YtahcgpnjlmpkpaaGreatDoor
open Go.ChangeShapes Go.WideShapes Go.ChangeAt Go.RowKit
open Go.ChangeMaps (open_string shut_string)

/-- A script as it came in: each step's six cells. -/
def IsOps (w : World) (a : Option Addr) (len : Nat) : Prop := len ≤ maxLen ∧ ∀ i, i < len → ∃ (b off : Nat) (kd x y : Int) (S T U : ByteArray), a = some ⟨b, off, none⟩ ∧ S.size ≤ maxLen ∧ T.size ≤ maxLen ∧
  w.cell? ⟨b, off + i * 6, none⟩ = some (.int .i64 kd) ∧ w.cell? ⟨b, off + i * 6 + 1, none⟩ = some (.string S) ∧ w.cell? ⟨b, off + i * 6 + 2, none⟩ = some (.string T) ∧ w.cell? ⟨b, off + i * 6 + 3, none⟩ = some (.string U) ∧
  w.cell? ⟨b, off + i * 6 + 4, none⟩ = some (.int .i64 x) ∧ w.cell? ⟨b, off + i * 6 + 5, none⟩ = some (.int .i64 y)

set_option maxRecDepth 100000 in
set_option maxHeartbeats 4000000 in
theorem parses_walk (a : Option Addr) (len cap wb wo wc0 : Nat) (w : World) (h : IsOps w a len) (ht : All w wb wo wc0) :
    Calls Tryz.prog 3 #[.slice a len cap] w fun e w' => e = .returned (.bool true) ∧ Below w.heap.size w w' := by
  obtain ⟨hm, hc⟩ := h
  unfold maxLen at hm
  have HC := hide hc
  have HTb := hide ht
  have hlt5 := ht.lt
  clear hc ht
  go_enter Tryz.func3, Tryz.ntmps3
  go_wp2_with fail
  go_loopg [3] (len) (fun g i wr => ∃ k : Nat, k + g = len ∧ i = .int .i64 k ∧ Below w.heap.size w wr)
  case atStart => exact ⟨0, by omega, rfl, Below.refl _ _⟩
  case round =>
    obtain ⟨k, hkg, rfl, hbel⟩ := hrel
    have HB := hide hbel
    clear hbel
    by_cases hlt : k < len
    · by_cases hmax : (k : Int) < 1152921504606846976
      · obtain ⟨b, off, kd, x, y, S, T, U, rfl, hS, hT, c0, c1, c2, c3, c4, c5⟩ := HC.out k hlt
        have d1 := cell_later HB.out c1
        have d2 := cell_later HB.out c2
        have hT1 := HTb.out.later HB.out
        have K1 := hide (termParsed_calls S wb wo wc0 wr hS hT1)
        have K2 : Hid (∀ W, All W wb wo wc0 → Calls Tryz.prog 4 #[.string T] W fun e w' => e = .returned (.bool true) ∧ Below W.heap.size W w') := fun W hW => termParsed_calls T wb wo wc0 W hT hW
        have HT1 := hide hT1
        have hz := HB.out.size
        have HC2 := hide c2
        clear c0 c1 c2 c3 c4 c5 hS hT hT1
        go_wp2_with (go_at_call 4; refine K1.out.mono ?_)
        rintro e w1 ⟨rfl, hb1⟩
        have hw1 := HB.out.trans (hb1.mono HB.out.size)
        have d3 := cell_later hw1 HC2.out
        have K3 := hide (K2.out w1 (HTb.out.later hw1))
        have HW1 := hide hw1
        clear hb1 hw1 d1 d2
        go_wp2_with (go_at_call 4; refine K3.out.mono ?_)
        rintro e w2 ⟨rfl, hb2⟩
        have HW2 := hide (HW1.out.trans (hb2.mono HW1.out.size))
        clear hb2
        go_wp2_with fail
        go_roundg (len - (k + 1))
        case measure => omega
        case rel => exact ⟨k + 1, by omega, by go_num, HW2.out⟩
      · go_wp2_with fail
        go_ret
        exact ⟨rfl, HB.out⟩
    · go_wp2_with fail
      go_ret
      exact ⟨rfl, HB.out⟩

theorem cells3 : Tryz.prog.cellsOf 3 = 1 := by kernel_rfl
theorem cells4 : Tryz.prog.cellsOf 4 = 1 := by kernel_rfl
theorem cells5 : Tryz.prog.cellsOf 5 = 1 := by kernel_rfl
theorem cells9 : Tryz.prog.cellsOf 9 = 1 := by kernel_rfl
theorem gShapes : Tryz.prog.globalNamed "provekernel/notation.levelShapes" = some 4 := by kernel_rfl
theorem tShapes : (Tryz.prog.globals[4]?).map (·.type) = some 139 := by kernel_rfl
theorem gSpans : Tryz.prog.globalNamed "provekernel/notation.nameSpans" = some 3 := by kernel_rfl
theorem tSpans : (Tryz.prog.globals[3]?).map (·.type) = some 136 := by kernel_rfl
theorem cells138 : Tryz.prog.cellsOf 138 = 2 := by kernel_rfl
theorem cells139 : Tryz.prog.cellsOf 139 = 10 := by kernel_rfl
theorem cells135 : Tryz.prog.cellsOf 135 = 3 := by kernel_rfl
theorem cells136 : Tryz.prog.cellsOf 136 = 18 := by kernel_rfl

set_option maxRecDepth 100000 in
/-- One row of the table, out of its reading. -/
theorem shape_cells {W : World} {n : Nat} {cs : List Value} {d : DataW Unit × List MemPlace} (ht : DataW.trod (fun _ => ()) Tryz.prog W 0 (fun _ => true) false n 138 cs = some d) :
    ∃ (s : ByteArray) (k : Int), cs = [.string s, .int .i64 k] ∧ d.1 = .agg [.lit (.string s.data.toList), .lit (.int .i64 k)] := by
  obtain ⟨xs, m, _, hd, hlen, hxs, hf⟩ := DataW.trod_struct Tryz.underlying138 ht
  rw [cells138] at hlen
  match cs, hlen with
  | [v0, v1], _ =>
    match xs, hxs with
    | [z0, z1], _ =>
      have f0 : DataW.trod (fun _ => ()) Tryz.prog W 0 (fun _ => true) false m 9 (List.take (Tryz.prog.cellsOf 9) (List.drop 0 [v0, v1])) = some z0 := hf 0 _ rfl
      rw [cells9] at f0
      have f1 : DataW.trod (fun _ => ()) Tryz.prog W 0 (fun _ => true) false m 3 (List.take (Tryz.prog.cellsOf 3) (List.drop 1 [v0, v1])) = some z1 := hf 1 _ rfl
      rw [cells3] at f1
      obtain ⟨s, h0, e0, _⟩ := DataW.trod_string Tryz.underlying9 f0
      obtain ⟨k, h1, e1, _⟩ := DataW.trod_int Tryz.underlying3 f1
      simp at h0 h1
      subst h0 h1
      exact ⟨s, k, rfl, by rw [hd, e0, e1]; rfl⟩

set_option maxRecDepth 100000 in
/-- One span, out of its reading. -/
theorem span_cells {W : World} {n : Nat} {cs : List Value} {d : DataW Unit × List MemPlace} (ht : DataW.trod (fun _ => ()) Tryz.prog W 0 (fun _ => true) false n 135 cs = some d) :
    ∃ (j k : Int) (b : Bool), cs = [.int .u8 j, .int .u8 k, .bool b] ∧ d.1 = .agg [.lit (.int .u8 j), .lit (.int .u8 k), .lit (.bool b)] := by
  obtain ⟨xs, m, _, hd, hlen, hxs, hf⟩ := DataW.trod_struct Tryz.underlying135 ht
  rw [cells135] at hlen
  match cs, hlen with
  | [v0, v1, v2], _ =>
    match xs, hxs with
    | [z0, z1, z2], _ =>
      have f0 : DataW.trod (fun _ => ()) Tryz.prog W 0 (fun _ => true) false m 5 (List.take (Tryz.prog.cellsOf 5) (List.drop 0 [v0, v1, v2])) = some z0 := hf 0 _ rfl
      rw [cells5] at f0
      have f1 : DataW.trod (fun _ => ()) Tryz.prog W 0 (fun _ => true) false m 5 (List.take (Tryz.prog.cellsOf 5) (List.drop 1 [v0, v1, v2])) = some z1 := hf 1 _ rfl
      rw [cells5] at f1
      have f2 : DataW.trod (fun _ => ()) Tryz.prog W 0 (fun _ => true) false m 4 (List.take (Tryz.prog.cellsOf 4) (List.drop 2 [v0, v1, v2])) = some z2 := hf 2 _ rfl
      rw [cells4] at f2
      obtain ⟨j, h0, e0, _⟩ := DataW.trod_int Tryz.underlying5 f0
      obtain ⟨k, h1, e1, _⟩ := DataW.trod_int Tryz.underlying5 f1
      obtain ⟨b, h2, e2⟩ := DataW.trod_bool Tryz.underlying4 f2
      simp at h0 h1 h2
      subst h0 h1 h2
      exact ⟨j, k, b, rfl, by rw [hd, e0, e1, e2]; rfl⟩

theorem str_of {s : ByteArray} {l : List UInt8} (h : s.data.toList = l) : s = ⟨l.toArray⟩ := by
  cases s; simp at h; subst h; simp

theorem gSyntax : Tryz.prog.globalNamed "strconv.ErrSyntax" = some 5 := by kernel_rfl
theorem tSyntax : (Tryz.prog.globals[5]?).map (·.type) = some 32 := by kernel_rfl
theorem gRange : Tryz.prog.globalNamed "strconv.ErrRange" = some 6 := by kernel_rfl
theorem tRange : (Tryz.prog.globals[6]?).map (·.type) = some 32 := by kernel_rfl
theorem gType : Tryz.prog.globalNamed "errors.errorType" = some 2 := by kernel_rfl
theorem rType : (Tryz.prog.cutTypes.find? (·.1 == "internal/reflectlite.rtype")).map (·.2) = some 108 := by kernel_rfl
theorem oneRow : ((List.range 197).filter fun t => Tryz.prog.rowNamed t [101, 114, 114, 111, 114]) = [32] := by kernel_rfl
theorem typesSize : Tryz.prog.types.size = 197 := by kernel_rfl

/-- What is read at an interface's type is nil, or a value with its type. -/
theorem iface_of_trod {H : Type} {enc : TypeId × Value → H} {P : Program} {t : TypeId} {ms : Array (String × TypeId)} (ht : P.underlying t = some (.interface ms)) {W : World} {base : Nat} {sp : Nat → Bool} {held : Bool} {fuel : Nat} {cs : List Value} {y : DataW H × List MemPlace} (h : DataW.trod enc P W base sp held fuel t cs = some y) :
    ∃ v, cs = [v] ∧ (v = .nilIface ∨ ∃ u x, v = .iface u x) := by
  cases fuel with
  | zero => simp [DataW.trod] at h
  | succ n =>
    match cs, h with
    | [], h => simp [DataW.trod, ht] at h
    | [v], h =>
      refine ⟨v, rfl, ?_⟩
      cases v with
      | nilIface => exact .inl rfl
      | iface u x => exact .inr ⟨u, x, rfl⟩
      | _ => simp [DataW.trod, ht] at h
    | _ :: _ :: _, h => simp [DataW.trod, ht] at h

/-- The two variables that the walk reads as errors. -/
abbrev errs : List (String × DataW Unit) := [("strconv.ErrRange", Rows.laid_strconv_ErrRange), ("strconv.ErrSyntax", Rows.laid_strconv_ErrSyntax)]
theorem errs_of : Rows.termParsesRow.laid.filter (fun x => x.1 == "strconv.ErrRange" || x.1 == "strconv.ErrSyntax") = errs := by
  simp [Rows.termParsesRow, errs]

theorem err_vars {W : World} (h : laidMetH Tryz.prog Rows.termParsesRow.laid W) : ErrVar W 5 ∧ ErrVar W 6 := by
  have h := h.filter (fun x => x.1 == "strconv.ErrRange" || x.1 == "strconv.ErrSyntax")
  rw [errs_of, MakeChecks.laidMetH_plain _ _ _ (by kernel_rfl)] at h
  obtain ⟨ps, ⟨g0, t0, cs0, f0, p0, q0, hg0, ht0, hv0, hd0, ⟨g1, t1, cs1, f1, p1, q1, hg1, ht1, hv1, hd1, _, _⟩, _⟩, _, _⟩ := h
  obtain rfl := Option.some.inj (gRange.symm.trans hg0)
  obtain rfl := Option.some.inj (tRange.symm.trans ht0)
  obtain rfl := Option.some.inj (gSyntax.symm.trans hg1)
  obtain rfl := Option.some.inj (tSyntax.symm.trans ht1)
  obtain ⟨v0, e0, h0⟩ := iface_of_trod Tryz.underlying32 hd0
  obtain ⟨v1, e1, h1⟩ := iface_of_trod Tryz.underlying32 hd1
  refine ⟨⟨v1, ?_, h1⟩, ⟨v0, ?_, h0⟩⟩
  · have := World.var?_cell hg1 hv1 0
    obtain ⟨l⟩ := cs1
    simp at e1
    subst e1
    simpa using this
  · have := World.var?_cell hg0 hv0 0
    obtain ⟨l⟩ := cs0
    simp at e0
    subst e0
    simpa using this

/-- The type's handle that errors.As asks for. -/
abbrev hand : List (String × DataW Unit) := [("errors.errorType", Rows.laid_errors_errorType)]
theorem hand_of : Rows.termParsesRow.laid.filter (fun x => x.1 == "errors.errorType") = hand := by
  simp [Rows.termParsesRow, hand]

theorem handle_laid {W : World} (h : laidMetH Tryz.prog Rows.termParsesRow.laid W) : W.cell? ⟨2, 0, none⟩ = some (.iface 108 (.agg #[.pointer (some ⟨11, 32, none⟩)])) := by
  have h := h.filter (fun x => x.1 == "errors.errorType")
  rw [hand_of] at h
  have h' : laidMet Tryz.prog [] W ∧ handlesMet Tryz.prog hand W := h
  obtain ⟨name, u, ty, e1, e2, e3, e4, e5⟩ := h'.2 _ (List.mem_singleton.2 rfl)
  have en : name = [101, 114, 114, 111, 114] := (Option.some.inj e1).symm
  subst en
  obtain rfl := Option.some.inj (rType.symm.trans e2)
  have hm : ty ∈ (List.range 197).filter fun t => Tryz.prog.rowNamed t [101, 114, 114, 111, 114] := List.mem_filter.2 ⟨List.mem_range.2 (by rw [← typesSize]; exact e3), e4⟩
  rw [oneRow] at hm
  obtain rfl := List.mem_singleton.1 hm
  have hh : typeHandle Tryz.prog 32 = .pointer (some ⟨11, 32, none⟩) := by kernel_rfl
  rw [hh] at e5
  simpa using World.var?_cell gType e5 0

/-- The two variables that the walk reads, of those that the row lists. -/
abbrev two : List (String × DataW Unit) := [("provekernel/notation.levelShapes", Rows.laid_provekernel_notation_levelShapes), ("provekernel/notation.nameSpans", Rows.laid_provekernel_notation_nameSpans)]
theorem two_of : Rows.termParsesRow.laid.filter (fun x => x.1 == "provekernel/notation.levelShapes" || x.1 == "provekernel/notation.nameSpans") = two := by
  simp [Rows.termParsesRow, two]

set_option maxRecDepth 100000 in
/-- What the condition gives the walk: the two tables. -/
theorem of_laid0 {W : World} (h : laidMetH Tryz.prog Rows.termParsesRow.laid W) : Tabs W := by
  have hE := err_vars h
  have hH := handle_laid h
  have h := h.filter (fun x => x.1 == "provekernel/notation.levelShapes" || x.1 == "provekernel/notation.nameSpans")
  rw [two_of, MakeChecks.laidMetH_plain _ _ _ (by kernel_rfl)] at h
  obtain ⟨ps, ⟨g0, t0, cs0, f0, p0, q0, hg0, ht0, hv0, hd0, ⟨g1, t1, cs1, f1, p1, q1, hg1, ht1, hv1, hd1, _, _⟩, _⟩, _, _⟩ := h
  obtain rfl := Option.some.inj (gShapes.symm.trans hg0)
  obtain rfl := Option.some.inj (tShapes.symm.trans ht0)
  obtain rfl := Option.some.inj (gSpans.symm.trans hg1)
  obtain rfl := Option.some.inj (tSpans.symm.trans ht1)
  have hT : Table W ∧ Parts W := by
    obtain ⟨xs, m, _, hx, hlen, hn, hel⟩ := DataW.trod_array Tryz.underlying139 hd0
    rw [cells139] at hlen
    have hc := World.var?_cell hg0 hv0
    simp only [Prod.mk.injEq] at hx
    match xs, hn with
    | [x0, x1, x2, x3, x4], _ =>
      obtain ⟨l⟩ := cs0
      match l, hlen with
      | [v0, v1, v2, v3, v4, v5, v6, v7, v8, v9], _ =>
        have r0 := hel 0 (by decide)
        have r1 := hel 1 (by decide)
        have r2 := hel 2 (by decide)
        have r3 := hel 3 (by decide)
        have r4 := hel 4 (by decide)
        rw [cells138] at r0 r1 r2 r3 r4
        obtain ⟨s0, j0, c0, d0⟩ := shape_cells (d := x0) r0
        obtain ⟨s1, j1, c1, d1⟩ := shape_cells (d := x1) r1
        obtain ⟨s2, j2, c2, d2⟩ := shape_cells (d := x2) r2
        obtain ⟨s3, j3, c3, d3⟩ := shape_cells (d := x3) r3
        obtain ⟨s4, j4, c4, d4⟩ := shape_cells (d := x4) r4
        simp at c0 c1 c2 c3 c4
        have hx1 := hx.1
        simp only [List.map_cons, List.map_nil, d0, d1, d2, d3, d4, Rows.laid_provekernel_notation_levelShapes, DataW.agg.injEq, List.cons.injEq, DataW.lit.injEq, Lit.string.injEq, Lit.int.injEq, and_true, true_and] at hx1
        obtain ⟨⟨e0, i0⟩, ⟨e1, i1⟩, ⟨e2, i2⟩, ⟨e3, i3⟩, ⟨e4, i4⟩⟩ := hx1
        refine ⟨⟨?_, ?_, ?_, ?_, ?_⟩, ⟨?_, ?_, ?_, ?_, ?_⟩⟩
        · rw [hc]; simp [c0.1, str_of e0.symm]
        · rw [hc]; simp [c1.1, str_of e1.symm]
        · rw [hc]; simp [c2.1, str_of e2.symm]
        · rw [hc]; simp [c3.1, str_of e3.symm]
        · rw [hc]; simp [c4.1, str_of e4.symm]
        · rw [hc]; simp [c0.2, i0]
        · rw [hc]; simp [c1.2, i1]
        · rw [hc]; simp [c2.2, i2]
        · rw [hc]; simp [c3.2, i3]
        · rw [hc]; simp [c4.2, i4]
  have hS : Spans W := by
    obtain ⟨xs, m, _, hx, hlen, hn, hel⟩ := DataW.trod_array Tryz.underlying136 hd1
    rw [cells136] at hlen
    have hc := World.var?_cell hg1 hv1
    simp only [Prod.mk.injEq] at hx
    match xs, hn with
    | [x0, x1, x2, x3, x4, x5], _ =>
      obtain ⟨l⟩ := cs1
      match l, hlen with
      | [v0, v1, v2, v3, v4, v5, v6, v7, v8, v9, v10, v11, v12, v13, v14, v15, v16, v17], _ =>
        have r0 := hel 0 (by decide)
        have r1 := hel 1 (by decide)
        have r2 := hel 2 (by decide)
        have r3 := hel 3 (by decide)
        have r4 := hel 4 (by decide)
        have r5 := hel 5 (by decide)
        rw [cells135] at r0 r1 r2 r3 r4 r5
        obtain ⟨j0, k0, b0, c0, d0⟩ := span_cells (d := x0) r0
        obtain ⟨j1, k1, b1, c1, d1⟩ := span_cells (d := x1) r1
        obtain ⟨j2, k2, b2, c2, d2⟩ := span_cells (d := x2) r2
        obtain ⟨j3, k3, b3, c3, d3⟩ := span_cells (d := x3) r3
        obtain ⟨j4, k4, b4, c4, d4⟩ := span_cells (d := x4) r4
        obtain ⟨j5, k5, b5, c5, d5⟩ := span_cells (d := x5) r5
        simp at c0 c1 c2 c3 c4 c5
        have hx1 := hx.1
        simp only [List.map_cons, List.map_nil, d0, d1, d2, d3, d4, d5, Rows.laid_provekernel_notation_nameSpans, DataW.agg.injEq, List.cons.injEq, DataW.lit.injEq, Lit.bool.injEq, Lit.int.injEq, and_true, true_and] at hx1
        obtain ⟨⟨i0, n0, q0⟩, ⟨i1, n1, q1⟩, ⟨i2, n2, q2⟩, ⟨i3, n3, q3⟩, ⟨i4, n4, q4⟩, ⟨i5, n5, q5⟩⟩ := hx1
        obtain ⟨a0, a1, a2⟩ := c0
        obtain ⟨a3, a4, a5⟩ := c1
        obtain ⟨a6, a7, a8⟩ := c2
        obtain ⟨a9, a10, a11⟩ := c3
        obtain ⟨a12, a13, a14⟩ := c4
        obtain ⟨a15, a16, a17⟩ := c5
        refine ⟨?_, ?_, ?_, ?_, ?_, ?_, ?_, ?_, ?_, ?_, ?_, ?_, ?_, ?_, ?_, ?_, ?_, ?_⟩
        · rw [hc]; simp [a0, i0]
        · rw [hc]; simp [a1, n0]
        · rw [hc]; simp [a2, q0]
        · rw [hc]; simp [a3, i1]
        · rw [hc]; simp [a4, n1]
        · rw [hc]; simp [a5, q1]
        · rw [hc]; simp [a6, i2]
        · rw [hc]; simp [a7, n2]
        · rw [hc]; simp [a8, q2]
        · rw [hc]; simp [a9, i3]
        · rw [hc]; simp [a10, n3]
        · rw [hc]; simp [a11, q3]
        · rw [hc]; simp [a12, i4]
        · rw [hc]; simp [a13, n4]
        · rw [hc]; simp [a14, q4]
        · rw [hc]; simp [a15, i5]
        · rw [hc]; simp [a16, n5]
        · rw [hc]; simp [a17, q5]
  exact ⟨hT.1, hS, hT.2, hH, hE.1, hE.2⟩

theorem gTerm : Tryz.prog.globalNamed "provekernel/notation.termShapes" = some 1 := by kernel_rfl
theorem tTerm : (Tryz.prog.globals[1]?).map (·.type) = some 83 := by kernel_rfl
theorem cells82 : Tryz.prog.cellsOf 82 = 4 := by kernel_rfl
theorem cells83 : Tryz.prog.cellsOf 83 = 28 := by kernel_rfl
theorem gWords : Tryz.prog.globalNamed "provekernel/provekernelref.words" = some 0 := by kernel_rfl
theorem tWords : (Tryz.prog.globals[0]?).map (·.type) = some 66 := by kernel_rfl

set_option maxRecDepth 100000 in
/-- One row of the terms' table, out of its reading. -/
theorem tshape_cells {W : World} {n : Nat} {cs : List Value} {d : DataW Unit × List MemPlace} (ht : DataW.trod (fun _ => ()) Tryz.prog W 0 (fun _ => true) false n 82 cs = some d) :
    ∃ (s : ByteArray) (b : Bool) (j k : Int), cs = [.string s, .bool b, .int .i64 j, .int .i64 k] ∧ d.1 = .agg [.lit (.string s.data.toList), .lit (.bool b), .lit (.int .i64 j), .lit (.int .i64 k)] := by
  obtain ⟨xs, m, _, hd, hlen, hxs, hf⟩ := DataW.trod_struct Tryz.underlying82 ht
  rw [cells82] at hlen
  match cs, hlen with
  | [v0, v1, v2, v3], _ =>
    match xs, hxs with
    | [z0, z1, z2, z3], _ =>
      have f0 : DataW.trod (fun _ => ()) Tryz.prog W 0 (fun _ => true) false m 9 (List.take (Tryz.prog.cellsOf 9) (List.drop 0 [v0, v1, v2, v3])) = some z0 := hf 0 _ rfl
      rw [cells9] at f0
      have f1 : DataW.trod (fun _ => ()) Tryz.prog W 0 (fun _ => true) false m 4 (List.take (Tryz.prog.cellsOf 4) (List.drop 1 [v0, v1, v2, v3])) = some z1 := hf 1 _ rfl
      rw [cells4] at f1
      have f2 : DataW.trod (fun _ => ()) Tryz.prog W 0 (fun _ => true) false m 3 (List.take (Tryz.prog.cellsOf 3) (List.drop 2 [v0, v1, v2, v3])) = some z2 := hf 2 _ rfl
      rw [cells3] at f2
      have f3 : DataW.trod (fun _ => ()) Tryz.prog W 0 (fun _ => true) false m 3 (List.take (Tryz.prog.cellsOf 3) (List.drop 3 [v0, v1, v2, v3])) = some z3 := hf 3 _ rfl
      rw [cells3] at f3
      obtain ⟨s, h0, e0, _⟩ := DataW.trod_string Tryz.underlying9 f0
      obtain ⟨b, h1, e1⟩ := DataW.trod_bool Tryz.underlying4 f1
      obtain ⟨j, h2, e2, _⟩ := DataW.trod_int Tryz.underlying3 f2
      obtain ⟨k, h3, e3, _⟩ := DataW.trod_int Tryz.underlying3 f3
      simp at h0 h1 h2 h3
      subst h0 h1 h2 h3
      exact ⟨s, b, j, k, rfl, by rw [hd, e0, e1, e2, e3]; rfl⟩

abbrev tsh : List (String × DataW Unit) := [("provekernel/notation.termShapes", Rows.laid_provekernel_notation_termShapes)]
theorem tsh_of : Rows.termParsesRow.laid.filter (fun x => x.1 == "provekernel/notation.termShapes") = tsh := by
  simp [Rows.termParsesRow, tsh]
abbrev wrd : List (String × DataW Unit) := [("provekernel/provekernelref.words", Rows.laid_provekernel_provekernelref_words)]
theorem wrd_of : Rows.termParsesRow.laid.filter (fun x => x.1 == "provekernel/provekernelref.words") = wrd := by
  simp [Rows.termParsesRow, wrd]

set_option maxRecDepth 100000 in
theorem of_laid1 {W : World} (h : laidMetH Tryz.prog Rows.termParsesRow.laid W) : TTab W := by
  have h := h.filter (fun x => x.1 == "provekernel/notation.termShapes")
  rw [tsh_of, MakeChecks.laidMetH_plain _ _ _ (by kernel_rfl)] at h
  obtain ⟨ps, ⟨g0, t0, cs0, f0, p0, q0, hg0, ht0, hv0, hd0, _, _⟩, _, _⟩ := h
  obtain rfl := Option.some.inj (gTerm.symm.trans hg0)
  obtain rfl := Option.some.inj (tTerm.symm.trans ht0)
  obtain ⟨xs, m, _, hx, hlen, hn, hel⟩ := DataW.trod_array Tryz.underlying83 hd0
  rw [cells83] at hlen
  have hc := World.var?_cell hg0 hv0
  simp only [Prod.mk.injEq] at hx
  match xs, hn with
  | [x0, x1, x2, x3, x4, x5, x6], _ =>
    obtain ⟨l⟩ := cs0
    match l, hlen with
    | [v0, v1, v2, v3, v4, v5, v6, v7, v8, v9, v10, v11, v12, v13, v14, v15, v16, v17, v18, v19, v20, v21, v22, v23, v24, v25, v26, v27], _ =>
      have r0 := hel 0 (by decide)
      have r1 := hel 1 (by decide)
      have r2 := hel 2 (by decide)
      have r3 := hel 3 (by decide)
      have r4 := hel 4 (by decide)
      have r5 := hel 5 (by decide)
      have r6 := hel 6 (by decide)
      rw [cells82] at r0 r1 r2 r3 r4 r5 r6
      obtain ⟨s0, b0, j0, k0, c0, d0⟩ := tshape_cells (d := x0) r0
      obtain ⟨s1, b1, j1, k1, c1, d1⟩ := tshape_cells (d := x1) r1
      obtain ⟨s2, b2, j2, k2, c2, d2⟩ := tshape_cells (d := x2) r2
      obtain ⟨s3, b3, j3, k3, c3, d3⟩ := tshape_cells (d := x3) r3
      obtain ⟨s4, b4, j4, k4, c4, d4⟩ := tshape_cells (d := x4) r4
      obtain ⟨s5, b5, j5, k5, c5, d5⟩ := tshape_cells (d := x5) r5
      obtain ⟨s6, b6, j6, k6, c6, d6⟩ := tshape_cells (d := x6) r6
      simp at c0 c1 c2 c3 c4 c5 c6
      have hx1 := hx.1
      simp only [List.map_cons, List.map_nil, d0, d1, d2, d3, d4, d5, d6, Rows.laid_provekernel_notation_termShapes, DataW.agg.injEq, List.cons.injEq, DataW.lit.injEq, Lit.string.injEq, Lit.bool.injEq, Lit.int.injEq, and_true, true_and] at hx1
      obtain ⟨⟨e0, i0, m0, n0⟩, ⟨e1, i1, m1, n1⟩, ⟨e2, i2, m2, n2⟩, ⟨e3, i3, m3, n3⟩, ⟨e4, i4, m4, n4⟩, ⟨e5, i5, m5, n5⟩, ⟨e6, i6, m6, n6⟩⟩ := hx1
      obtain ⟨a0, a1, a2, a3⟩ := c0
      obtain ⟨a4, a5, a6, a7⟩ := c1
      obtain ⟨a8, a9, a10, a11⟩ := c2
      obtain ⟨a12, a13, a14, a15⟩ := c3
      obtain ⟨a16, a17, a18, a19⟩ := c4
      obtain ⟨a20, a21, a22, a23⟩ := c5
      obtain ⟨a24, a25, a26, a27⟩ := c6
      have hl : [v0, v1, v2, v3, v4, v5, v6, v7, v8, v9, v10, v11, v12, v13, v14, v15, v16, v17, v18, v19, v20, v21, v22, v23, v24, v25, v26, v27] = tcs := by
        rw [a0, a1, a2, a3, a4, a5, a6, a7, a8, a9, a10, a11, a12, a13, a14, a15, a16, a17, a18, a19, a20, a21, a22, a23, a24, a25, a26, a27]
        rw [str_of e0.symm, str_of e1.symm, str_of e2.symm, str_of e3.symm, str_of e4.symm, str_of e5.symm, str_of e6.symm, ← i0, ← m0, ← n0, ← i1, ← m1, ← n1, ← i2, ← m2, ← n2, ← i3, ← m3, ← n3, ← i4, ← m4, ← n4, ← i5, ← m5, ← n5, ← i6, ← m6, ← n6]
        rfl
      intro j v hv
      rw [Nat.zero_add, hc]
      show ([v0, v1, v2, v3, v4, v5, v6, v7, v8, v9, v10, v11, v12, v13, v14, v15, v16, v17, v18, v19, v20, v21, v22, v23, v24, v25, v26, v27].toArray)[j]? = some v
      rw [hl]
      simpa using hv

set_option maxRecDepth 100000 in
theorem of_laid2 {W : World} (h : laidMetH Tryz.prog Rows.termParsesRow.laid W) : ∃ wb wo wc, WordsAt W wb wo wc := by
  have h := h.filter (fun x => x.1 == "provekernel/provekernelref.words")
  rw [wrd_of, MakeChecks.laidMetH_plain _ _ _ (by kernel_rfl)] at h
  obtain ⟨ps, ⟨g0, t0, cs0, f0, p0, q0, hg0, ht0, hv0, hd0, _, _⟩, _, _⟩ := h
  obtain rfl := Option.some.inj (gWords.symm.trans hg0)
  obtain rfl := Option.some.inj (tWords.symm.trans ht0)
  have hc := World.var?_cell hg0 hv0 0
  obtain ⟨l⟩ := cs0
  rcases Deep.open_slice1 Tryz.underlying66 cells9 hd0 with ⟨_, hx⟩ | ⟨a, len, cap, m, n, V, D, Pl, hcs, _, hl, hm, hmm, hx, hel⟩
  · simp [Rows.laid_provekernel_provekernelref_words] at hx
  · simp only [Prod.mk.injEq, Rows.laid_provekernel_provekernelref_words, DataW.slice.injEq] at hx
    have hlen : len = 7 := by have := congrArg List.length hx.1.1; simpa using this.symm
    subst hlen
    have hD := hx.1.1
    simp [List.range, List.range.loop] at hD
    obtain ⟨D0, D1, D2, D3, D4, D5, D6⟩ := hD
    have hmi : ∀ j, j < 7 → j < m := fun j hj => by rw [hmm]; simp; omega
    obtain ⟨b, off, spot⟩ := a
    have hspot : spot = none := by
      have := (hel 0 (hmi 0 (by omega))).1
      exact World.cell?_spot this
    subst hspot
    have hw : ∀ i, i < 7 → ∀ q : List UInt8, D i = .lit (.string q) → W.cell? ⟨b, off + i, none⟩ = some (.string ⟨q.toArray⟩) := fun i hi q hq => by
      obtain ⟨h1, h2⟩ := hel i (hmi i hi)
      obtain ⟨s, h3, h4, _⟩ := DataW.trod_string Tryz.underlying9 h2
      simp at h3
      rw [Addr.add_lit] at h1
      rw [h1, h3]
      have : D i = .lit (.string s.data.toList) := (Prod.mk.inj h4).1
      rw [hq] at this
      simp at this
      rw [str_of this.symm]
    refine ⟨b, off, cap, ?_, hw 1 (by omega) _ D1.symm, hw 2 (by omega) _ D2.symm, hw 3 (by omega) _ D3.symm, hw 4 (by omega) _ D4.symm, hw 5 (by omega) _ D5.symm, hw 6 (by omega) _ D6.symm⟩
    simp at hcs
    subst hcs
    simpa using hc

theorem of_laid {W : World} (h : laidMetH Tryz.prog Rows.termParsesRow.laid W) : ∃ wb wo wc, All W wb wo wc := by
  obtain ⟨wb, wo, wc, hw⟩ := of_laid2 h
  exact ⟨wb, wo, wc, ⟨of_laid0 h, of_laid1 h⟩, hw⟩

/-- The heap that the door's own run leaves meets the condition. -/
theorem door_met (os : Os) (args : Array Value) : laidMetH Tryz.prog Rows.termParsesRow.laid ((World.doorLaid Tryz.prog 400 os).forCall (fun _ _ => 0) ⟨#[], args, []⟩).memory :=
  laidMetH_of_parts3 (fuel := 8) (laidMet_of_run' 8 (by kernel_rfl) (by kernel_rfl)) (by kernel_rfl) (by kernel_rfl)



theorem own : ownKnob Tryz.prog.godebug = none := by kernel_rfl
theorem laidOut : laidOutB Tryz.prog = true := by kernel_rfl

theorem cells25 : Tryz.prog.cellsOf 25 = 6 := by kernel_rfl
set_option maxRecDepth 100000 in
/-- A step's six cells, out of its reading. -/
theorem op_cells {H : Type} {enc : TypeId × Value → H} {W : World} {base n : Nat} {spare : Nat → Bool} {held : Bool} {cs : List Value} {d : DataW H × List MemPlace} (ht : DataW.trod enc Tryz.prog W base spare held n 25 cs = some d) :
    ∃ (kd x y : Int) (S T U : ByteArray), cs = [.int .i64 kd, .string S, .string T, .string U, .int .i64 x, .int .i64 y] ∧ S.size ≤ maxLen ∧ T.size ≤ maxLen := by
  obtain ⟨xs, m, _, _, hlen, hxs, hf⟩ := DataW.trod_struct Tryz.underlying25 ht
  rw [cells25] at hlen
  match cs, hlen with
  | [v0, v1, v2, v3, v4, v5], _ =>
    have g : ∀ i, i < 6 → ∃ z, xs[i]? = some z := fun i hi => ⟨xs[i]'(by rw [hxs]; exact hi), List.getElem?_eq_getElem _⟩
    obtain ⟨z0, e0⟩ := g 0 (by omega)
    obtain ⟨z1, e1⟩ := g 1 (by omega)
    obtain ⟨z2, e2⟩ := g 2 (by omega)
    obtain ⟨z3, e3⟩ := g 3 (by omega)
    obtain ⟨z4, e4⟩ := g 4 (by omega)
    obtain ⟨z5, e5⟩ := g 5 (by omega)
    have f0 : DataW.trod enc Tryz.prog W base spare held m 3 (List.take (Tryz.prog.cellsOf 3) (List.drop 0 [v0, v1, v2, v3, v4, v5])) = some z0 := (hf 0 _ rfl).trans e0
    rw [cells3] at f0
    have f1 : DataW.trod enc Tryz.prog W base spare held m 9 (List.take (Tryz.prog.cellsOf 9) (List.drop 1 [v0, v1, v2, v3, v4, v5])) = some z1 := (hf 1 _ rfl).trans e1
    rw [cells9] at f1
    have f2 : DataW.trod enc Tryz.prog W base spare held m 9 (List.take (Tryz.prog.cellsOf 9) (List.drop 2 [v0, v1, v2, v3, v4, v5])) = some z2 := (hf 2 _ rfl).trans e2
    rw [cells9] at f2
    have f3 : DataW.trod enc Tryz.prog W base spare held m 9 (List.take (Tryz.prog.cellsOf 9) (List.drop 3 [v0, v1, v2, v3, v4, v5])) = some z3 := (hf 3 _ rfl).trans e3
    rw [cells9] at f3
    have f4 : DataW.trod enc Tryz.prog W base spare held m 3 (List.take (Tryz.prog.cellsOf 3) (List.drop 4 [v0, v1, v2, v3, v4, v5])) = some z4 := (hf 4 _ rfl).trans e4
    rw [cells3] at f4
    have f5 : DataW.trod enc Tryz.prog W base spare held m 3 (List.take (Tryz.prog.cellsOf 3) (List.drop 5 [v0, v1, v2, v3, v4, v5])) = some z5 := (hf 5 _ rfl).trans e5
    rw [cells3] at f5
    obtain ⟨kd, h0, _⟩ := DataW.trod_int Tryz.underlying3 f0
    obtain ⟨S, h1, _, hS⟩ := DataW.trod_string Tryz.underlying9 f1
    obtain ⟨T, h2, _, hT⟩ := DataW.trod_string Tryz.underlying9 f2
    obtain ⟨U, h3, _, _⟩ := DataW.trod_string Tryz.underlying9 f3
    obtain ⟨x, h4, _⟩ := DataW.trod_int Tryz.underlying3 f4
    obtain ⟨y, h5, _⟩ := DataW.trod_int Tryz.underlying3 f5
    simp at h0 h1 h2 h3 h4 h5
    subst h0 h1 h2 h3 h4 h5
    exact ⟨kd, x, y, S, T, U, rfl, hS, hT⟩

set_option maxRecDepth 100000 in
theorem lifted (os : Os) (started : os.Started) (H : Type) (enc : TypeId × Value → H) :
    ReturnsInHanded {} Tryz.checked os 3 .any (fun w args => (Rows.termParsesSpec.pre enc Tryz.prog Tryz.f3 [] false w args ∧ laidMetH Tryz.prog Rows.termParsesRow.laid w) ∧ sizedMet enc Tryz.prog Tryz.f3 (OpenSpec.ofChange Rows.termParsesSpec) false w args)
      (Rows.termParsesSpec.post enc Tryz.prog Tryz.f3 false true false false) := by
  refine returnsInHanded_of_change_and (C := Tryz.checked) (X := fun w _ => laidMetH Tryz.prog Rows.termParsesRow.laid w) (fun _ _ _ hh h => h.of_heap hh) own started (by kernel_rfl) Tryz.func3
    (ChangeSpec.witness_shaped (enc := enc) (C := Tryz.checked) (os := os) (X := fun w _ => laidMetH Tryz.prog Rows.termParsesRow.laid w) false (World.doorLaid Tryz.prog 400 os) #[.slice none 0 0] 8 rfl (World.shaped_of_RefB (by kernel_rfl) (by kernel_rfl)) (by kernel_rfl) (by kernel_rfl) (by kernel_rfl) (door_met os _)) ?_
  intro W base args ds gs before hval0 hW _ _ hL _
  have hval : ∀ (j : Nat) t v, Tryz.f3.params[j]? = some t → args[j]? = some v → Value.okWide Tryz.prog W .any base t v := hval0
  have hW' := hW
  obtain ⟨p, q, hA0, hV, rfl, hfz, hnd⟩ := hW
  have hA : DataW.TrodAll enc Tryz.prog W 0 (fun _ => true) true Tryz.f3.params.toList args.toList ds p := hA0
  rw [Tryz.params3] at hA hval
  obtain ⟨v0, vs0, d0, ds0, p0, q0, hargs, rfl, rfl, h0, r0⟩ := trodAll_cons hA
  obtain ⟨rfl, rfl, rfl⟩ := trodAll_nil r0
  obtain rfl : args = #[v0] := by cases args; simp_all
  obtain ⟨rfl, rfl⟩ := trodVars_none hV
  obtain ⟨a0, len0, cap0, rfl⟩ := okWide_slice Tryz.underlying22 (hval 0 22 v0 rfl rfl)
  have k0 := h0
  have lt0 : ∀ x ∈ p0, x.block < W.heap.size := by obtain ⟨m, hm⟩ := k0; exact DataW.trod_lt m _ _ _ hm
  have w0 : IsOps W a0 len0 := by
    obtain ⟨fuel, hf⟩ := h0
    rcases Deep.open_slice Tryz.underlying22 hf with ⟨hcs, _⟩ | ⟨x, l, c, m, n, D, Pl, hcs, _, hl, hm, hmm, _, hel⟩
    · simp [Value.cells] at hcs
      obtain ⟨rfl, rfl, rfl⟩ := hcs
      exact ⟨by unfold maxLen; omega, fun i hi => absurd hi (by omega)⟩
    · simp [Value.cells] at hcs
      obtain ⟨rfl, rfl, rfl⟩ := hcs
      refine ⟨by omega, fun i hi => ?_⟩
      have hmi : ∀ j, j < len0 → j < m := fun j hj => by rw [hmm]; simp; omega
      obtain ⟨b, off, spot⟩ := x
      have hspot : spot = none := by
        obtain ⟨cs, hc, ht⟩ := hel 0 (hmi 0 (by omega))
        obtain ⟨kd, x, y, S, T, U, rfl, _⟩ := op_cells ht
        rw [cells25] at hc
        have := (World.cells?_some hc).2.2 0 (by omega)
        simpa [Addr.add] using World.cell?_spot this
      subst hspot
      obtain ⟨cs, hc, ht⟩ := hel i (hmi i hi)
      obtain ⟨kd, x, y, S, T, U, rfl, hS, hT⟩ := op_cells ht
      rw [cells25] at hc
      have hcell := (World.cells?_some hc).2.2
      have g0 := hcell 0 (by omega)
      have g1 := hcell 1 (by omega)
      have g2 := hcell 2 (by omega)
      have g3 := hcell 3 (by omega)
      have g4 := hcell 4 (by omega)
      have g5 := hcell 5 (by omega)
      simp only [Addr.add_lit] at g0 g1 g2 g3 g4 g5
      exact ⟨b, off, kd, x, y, S, T, U, rfl, hS, hT, g0, g1, g2, g3, g4, g5⟩
  clear hA0 hval0
  obtain ⟨wb, wo, wc0, hAll⟩ := of_laid hL
  refine (parses_walk a0 len0 cap0 wb wo wc0 W w0 hAll).mono fun e W' ⟨he, bel⟩ => ?_
  subst he
  exact ⟨_, rfl, _, _, _, [], _, [], hW', trodAll_mk1 (shut_bool Tryz.underlying4 _), (trodAll_cons_mk (Below.trod laidOut (by kernel_rfl) (of_decide_eq_true (by kernel_rfl)) k0 bel lt0) trodAll_mk0), rfl, bel.frame _, fun h => by cases h⟩

theorem row_holds : Rows.TermParsesSaid :=
  OpenClaim.holds_of_wide 3 Tryz.f3 rfl rfl rfl rfl rfl rfl rfl ⟨rfl, rfl, rfl, rfl, rfl⟩ rfl rfl rfl rfl rfl (by kernel_rfl) Tryz.func3 (by kernel_rfl)
    (of_decide_eq_true (by kernel_rfl)) (by unfold Func.isWrapper; first | (rw [if_pos (by decide +kernel)]; kernel_rfl) | (rw [if_neg (by decide +kernel)]; exact ⟨rfl, rfl⟩))
    (fun os started H enc _ => lifted os started H enc)
#print axioms row_holds



theorem termParses_holds : Rows.TermParsesCardSaid :=
  Claim7.holds_tied_plain_at .later [] [.data, .data, .data, .handle, .data, .sentinel, .sentinel, .data, .data, .data] true (true, "1f9749c57d573946b5db13493f94160ea32cdfcca1604704b5c8761f8bfab20e") true
    row_holds (fun _ h => by cases h) (by kernel_rfl) (fun _ h => by cases h) termParses_row_tie rfl ⟨rfl, rfl⟩ (by kernel_rfl) rfl
    (fun f fn hf hfn => by
      obtain rfl : f = 3 := Option.some.inj ((show Tryz.prog.funcNamed "provekernel/provekernellaw.TermParses" = some 3 by kernel_rfl).symm.trans hf) |>.symm
      obtain rfl : fn = Tryz.f3 := (Option.some.inj (Tryz.func3.symm.trans hfn)).symm
      exact ⟨by kernel_rfl, fun j t ht => by
        rw [Tryz.params3] at ht
        have hm : t ∈ [22] := by simpa using Array.mem_of_getElem? ht
        have hall : ([22].all fun u => !Tryz.prog.wantsStandIn u) = true := by kernel_rfl
        exact (show Tryz.prog.wantsStandIn t = false by simpa using List.all_eq_true.1 hall t hm)⟩)
    (by kernel_rfl)
#print axioms termParses_holds


end Go.Proofs.YtahcgpnjlmpkpaaGreatDoor
