/- The contracts of the scanner's Level and levelInBrackets: where a level stands, it is read. -/
import Derived.Test.YtpdoegjddiaaoaaDoorWord
import Derived.Test.YtpdoegjddiaaoaaDoorInP
import Derived.Deep.DeepCutAuto
namespace Go.Proofs.YtpdoegjddiaaoaaDoor
open Go.RowKit

section
variable {s q : ByteArray} {p p' c : Nat}
theorem SignAt.le (h : SignAt s c p p') : p' ≤ s.size := by obtain ⟨h1, _, rfl⟩ := h; omega
theorem WordAt.le (h : WordAt s q p p') : p' ≤ s.size := by obtain ⟨h1, _, rfl, _⟩ := h; exact runTo_le _ s (by omega)
theorem ZeroAt.le (h : ZeroAt s p p') : p' ≤ s.size := by obtain ⟨h1, _, _, rfl⟩ := h; omega

theorem SignAt.nexts (hs : s.size ≤ 20000) (hp : p ≤ s.size) (h : SignAt s c p p') (kd : Nat) (hk : (c = 40 ∧ kd = 1) ∨ (c = 41 ∧ kd = 2)) : Nexts s p kd (runTo blankB s p) p' (s.extract (runTo blankB s p) p') := by
  have hle := h.le
  obtain ⟨h1, h2, rfl⟩ := h
  intro sc w hS hT hsc
  refine next_tok sc s p kd _ w hS hs hp hT hsc h1 ?_ (by omega) hle
  rcases hk with ⟨rfl, rfl⟩ | ⟨rfl, rfl⟩
  · exact .inl ⟨h2, rfl, rfl⟩
  · exact .inr (.inl ⟨h2, rfl, rfl⟩)

theorem WordAt.nexts (hs : s.size ≤ 20000) (hp : p ≤ s.size) (h : WordAt s q p p') : Nexts s p 3 (runTo blankB s p) p' q := by
  have hle := h.le
  obtain ⟨h1, h2, h3, h4, rfl⟩ := h
  intro sc w hS hT hsc
  have hge := runTo_ge (fun c => nameB c false) s (runTo blankB s p + 1)
  exact next_tok sc s p 3 _ w hS hs hp hT hsc h1 (.inr (.inr (.inr ⟨h2, rfl, h3, h4⟩))) (by omega) hle

theorem ZeroAt.nexts (hs : s.size ≤ 20000) (hp : p ≤ s.size) (h : ZeroAt s p p') : Nexts s p 4 (runTo blankB s p) p' ⟨#[48]⟩ := by
  have hle := h.le
  obtain ⟨h1, h2, h3, rfl⟩ := h
  intro sc w hS hT hsc
  have he : s.extract (runTo blankB s p) (runTo blankB s p + 1) = ⟨#[48]⟩ := by
    have e2 := (at_eq h1).trans h2
    have e3 : s[runTo blankB s p] = 48 := UInt8.toNat_inj.1 (by rw [e2]; rfl)
    rw [ByteArray.ext_iff]
    apply Array.ext'
    apply List.ext_getElem
    · simp; omega
    · intro i h1' h2'
      simp at h2'
      subst h2'
      simp
      exact e3
  have := next_tok sc s p 4 _ w hS hs hp hT hsc h1 (.inr (.inr (.inl ⟨by rw [h2]; decide, rfl, h3.symm⟩))) (by omega) hle
  rw [he] at this
  exact this

theorem end_nexts (hs : s.size ≤ 20000) (hp : p ≤ s.size) (h : runTo blankB s p = s.size) : Nexts s p 0 s.size s.size ⟨#[]⟩ := fun sc w hS hT hsc => next_end sc s p w hS hs hp hT hsc h
end

/-- Levels stand there, one behind the other. -/
def ReadsAll (s : ByteArray) : List LvB → Nat → Nat → Prop
  | [], p, p' => p' = p
  | a :: bs, p, p' => ∃ p1, Reads s a p p1 ∧ ReadsAll s bs p1 p'

theorem Reads.le {s : ByteArray} : ∀ {l : LvB} {p p' : Nat}, Reads s l p p' → p' ≤ s.size
  | .zero, _, _, h => ZeroAt.le h
  | .param _, _, _, h => WordAt.le h
  | .succ _, _, _, ⟨_, _, _, _, _, _, h⟩ => SignAt.le h
  | .max _ _, _, _, ⟨_, _, _, _, _, _, _, _, h⟩ => SignAt.le h
  | .imax _ _, _, _, ⟨_, _, _, _, _, _, _, _, h⟩ => SignAt.le h

/-- A level's word behind its bracket. -/
def Lv.wordB : LvB → ByteArray
  | .succ _ => ⟨#[115]⟩
  | .max _ _ => ⟨#[109, 97, 120]⟩
  | .imax _ _ => ⟨#[105, 109, 97, 120]⟩
  | _ => ⟨#[]⟩

theorem Reads.inside {s : ByteArray} {l : LvB} {p p' : Nat} (h : Reads s l p p') (h0 : l.kind ≠ 0) (h4 : l.kind ≠ 4) : ∃ p1 p2 p3, SignAt s 40 p p1 ∧ WordAt s l.wordB p1 p2 ∧ ReadsAll s l.kids p2 p3 ∧ SignAt s 41 p3 p' := by
  cases l with
  | zero => exact absurd rfl h0
  | param => exact absurd rfl h4
  | succ a => obtain ⟨p1, p2, p3, h1, h2, h3, h4⟩ := h; exact ⟨p1, p2, p3, h1, h2, ⟨p3, h3, rfl⟩, h4⟩
  | max a b => obtain ⟨p1, p2, p3, p4, h1, h2, h3, h4, h5⟩ := h; exact ⟨p1, p2, p4, h1, h2, ⟨p3, h3, p4, h4, rfl⟩, h5⟩
  | imax a b => obtain ⟨p1, p2, p3, p4, h1, h2, h3, h4, h5⟩ := h; exact ⟨p1, p2, p4, h1, h2, ⟨p3, h3, p4, h4, rfl⟩, h5⟩

/-- A level was read: it lies in new blocks; the scanner stands behind it. -/
def LevOf (w : World) (sc : Nat) (s : ByteArray) (l : LvB) (p' : Nat) (e : Ending) (w' : World) : Prop :=
  ∃ (k : Int) (nm : ByteArray) (A : Option Addr) (n cap : Nat), e = .returned (.agg #[.int .i64 k, .string nm, .slice A n cap]) ∧ InP w' (fun b => w.heap.size ≤ b) l (.agg #[.int .i64 k, .string nm, .slice A n cap]) ∧ ScAt w' sc s p' ∧ Touched w sc w'

/-- The result's block is filled last. -/
theorem lev_fill {w W : World} {sc p' : Nat} {s : ByteArray} {l : LvB} {k : Int} {nm : ByteArray} {A : Option Addr} {n cap : Nat} (hsc : sc < w.heap.size) (hT : Touched w sc W) (hS : ScAt W sc s p') (hp : InP W (fun b => w.heap.size + 1 ≤ b) l (.agg #[.int .i64 k, .string nm, .slice A n cap])) (u0 u1 u2 : Value) :
    LevOf w sc s l p' (.returned (.agg #[.int .i64 k, .string nm, .slice A n cap])) (((W.setCell ⟨w.heap.size, 0, none⟩ u0).setCell ⟨w.heap.size, 1, none⟩ u1).setCell ⟨w.heap.size, 2, none⟩ u2) := by
  have hf := filled3 (Nat.le_refl w.heap.size) (by omega) hS hT u0 u1 u2
  refine ⟨k, nm, A, n, cap, rfl, hp.keep fun b _ hb => ⟨by omega, ?_⟩, hf.1, hf.2⟩
  rw [Below.heap_setCell _ _ _ _ (by show b ≠ w.heap.size; omega), Below.heap_setCell _ _ _ _ (by show b ≠ w.heap.size; omega), Below.heap_setCell _ _ _ _ (by show b ≠ w.heap.size; omega)]

theorem LevOf.alloc {w W : World} {sc p' : Nat} {s : ByteArray} {l : LvB} {e : Ending} (h : LevOf w sc s l p' e W) (o : Obj) : LevOf w sc s l p' e (W.alloc o) := by
  obtain ⟨k, nm, A, n, cap, he, hp, hS, hT⟩ := h
  exact ⟨k, nm, A, n, cap, he, hp.keep fun b hb hS => ⟨hS, Below.heap_alloc _ _ _ hb⟩, hS.alloc _, hT.trans (Touched.alloc _ _ _)⟩

abbrev kinds3 : Obj := .cells #[.int .i64 1, .int .i64 3, .int .i64 4] 86

theorem lcells {w w' : World} {sc : Nat} (hsc : sc < w.heap.size) (ht : Touched (w.alloc zlev) sc w') : w'.cell? ⟨w.heap.size, 0, none⟩ = some (.int .i64 0) ∧ w'.cell? ⟨w.heap.size, 1, none⟩ = some (.string ⟨#[]⟩) ∧ w'.cell? ⟨w.heap.size, 2, none⟩ = some (.slice none 0 0) ∧ (∀ i, w'.frozen? ⟨w.heap.size, i, none⟩ = false) ∧ w.heap.size < w'.heap.size := by
  have hb : w'.heap[w.heap.size]? = (w.alloc zlev).heap[w.heap.size]? := ht.block _ (by simp) (by simp; omega)
  have hz := ht.size
  simp at hz
  refine ⟨?_, ?_, ?_, fun i => ?_, by omega⟩
  · rw [World.cell?_of_block hb]; simp
  · rw [World.cell?_of_block hb]; simp
  · rw [World.cell?_of_block hb]; simp
  · rw [World.frozen?_of_block hb]; simp [World.frozen?_alloc_at]

/-- Level's first call. -/
theorem lev_expect (sc : Nat) (s : ByteArray) (p kd k p' : Nat) (t : ByteArray) (w : World) (hn : Nexts s p kd k p' t) (h : ScAt w sc s p) (ht : Tabs w) (hsc : 1 < sc) (hk : kd = 1 ∨ kd = 3 ∨ kd = 4) :
    Calls Tryd.prog 43 #[.pointer (some ⟨sc, 0, none⟩), .slice (some ⟨w.heap.size + 1, 0, none⟩) 3 3] ((w.alloc zlev).alloc kinds3) fun e w' => e = .returned (.agg #[.int .i64 (kd : Nat), .int .i64 (k : Nat), .string t]) ∧ ScAt w' sc s p' ∧ Touched (w.alloc zlev) sc w' := by
  have hlt := h.lt
  have hb : Below w.heap.size w ((w.alloc zlev).alloc kinds3) := ((Below.refl _ _).alloc (Nat.le_refl _) _).alloc (by simp) _
  refine (expect_calls sc s p kd k p' t [1, 3, 4] _ _ hn ((h.alloc _).alloc _) (ht.below hb ht.lt) hsc ⟨by simp, w.heap.size + 1, 3, rfl, fun i hi => ?_⟩ (fun b n cap e => by injection e with e; injection e with e; injection e with e; omega) (by simp; exact hk)).mono ?_
  · match i, hi with
    | 0, _ => simp [World.cell?_alloc_at]
    | 1, _ => simp [World.cell?_alloc_at]
    | 2, _ => simp [World.cell?_alloc_at]
  · rintro e w' ⟨he, hS, hT⟩
    exact ⟨he, hS, (Touched.alloc _ _ _).trans hT⟩

set_option maxRecDepth 100000 in
set_option maxHeartbeats 4000000 in
theorem lev_zero (sc : Nat) (s : ByteArray) (p p' : Nat) (w : World) (hs : s.size ≤ 20000) (hp : p ≤ s.size) (hr : ZeroAt s p p') (h : ScAt w sc s p) (ht : Tabs w) (hsc : 1 < sc) :
    Calls Tryd.prog 25 #[.pointer (some ⟨sc, 0, none⟩)] w fun e w' => LevOf w sc s .zero p' e w' := by
  have hlt := h.lt
  have K1 := hide (lev_expect sc s p 4 _ p' _ w (hr.nexts hs hp) h ht hsc (.inr (.inr rfl)))
  clear h ht hr
  generalize runTo blankB s p = k at *
  go_enter Tryd.func25, Tryd.ntmps25
  go_wp2_with (go_at_call 43; refine K1.out.mono ?_)
  rintro e w1 ⟨rfl, hS1, hT1⟩
  obtain ⟨d0, d1, d2, d3, d4⟩ := lcells hlt hT1
  have HS := hide hS1
  have HT := hide ((Touched.alloc w sc zlev).trans hT1)
  clear hS1 hT1
  go_wp2_with fail
  refine bodyPost_ret (v := .agg #[.int .i64 0, .string ⟨#[]⟩, .slice none 0 0]) (by simp [results, Tryd.results25, go_sem, d0, d1, d2, d4]) rfl ?_
  exact (lev_fill hlt HT.out HS.out (l := .zero) (by exact rfl) _ _ _).alloc _

set_option maxRecDepth 100000 in
set_option maxHeartbeats 4000000 in
theorem lev_param (sc : Nat) (s q : ByteArray) (p p' : Nat) (w : World) (hs : s.size ≤ 20000) (hp : p ≤ s.size) (hr : WordAt s q p p') (h : ScAt w sc s p) (ht : Tabs w) (hsc : 1 < sc) :
    Calls Tryd.prog 25 #[.pointer (some ⟨sc, 0, none⟩)] w fun e w' => LevOf w sc s (.param q) p' e w' := by
  have hlt := h.lt
  have K1 := hide (lev_expect sc s p 3 _ p' _ w (hr.nexts hs hp) h ht hsc (.inr (.inl rfl)))
  clear h ht hr
  generalize runTo blankB s p = k at *
  go_enter Tryd.func25, Tryd.ntmps25
  go_wp2_with (go_at_call 43; refine K1.out.mono ?_)
  rintro e w1 ⟨rfl, hS1, hT1⟩
  obtain ⟨d0, d1, d2, d3, d4⟩ := lcells hlt hT1
  have HS := hide hS1
  have HT := hide ((Touched.alloc w sc zlev).trans hT1)
  clear hS1 hT1
  go_wp2_with fail
  refine bodyPost_ret (v := .agg #[.int .i64 4, .string q, .slice none 0 0]) (by simp [results, Tryd.results25, go_sem, d0, d1, d2, d4]) rfl ?_
  exact (lev_fill hlt HT.out HS.out (l := .param q) (by exact rfl) _ _ _).alloc _

set_option maxRecDepth 100000 in
set_option maxHeartbeats 4000000 in
theorem lev_open (sc : Nat) (s : ByteArray) (l : LvB) (p p1 p' : Nat) (w : World) (hs : s.size ≤ 20000) (hp : p ≤ s.size) (hr : SignAt s 40 p p1) (h : ScAt w sc s p) (ht : Tabs w) (hsc : 1 < sc)
    (hin : ∀ W, ScAt W sc s p1 → Tabs W → Calls Tryd.prog 44 #[.pointer (some ⟨sc, 0, none⟩)] W fun e w' => LevOf W sc s l p' e w') :
    Calls Tryd.prog 25 #[.pointer (some ⟨sc, 0, none⟩)] w fun e w' => LevOf w sc s l p' e w' := by
  have hlt := h.lt
  have K1 := hide (lev_expect sc s p 1 _ p1 _ w (hr.nexts hs hp 1 (.inl ⟨rfl, rfl⟩)) h ht hsc (.inl rfl))
  have K2 := hide hin
  have HTb := hide ht
  clear h ht hr hin
  generalize s.extract (runTo blankB s p) p1 = t at *
  generalize runTo blankB s p = k at *
  go_enter Tryd.func25, Tryd.ntmps25
  go_wp2_with (go_at_call 43; refine K1.out.mono ?_)
  rintro e w1 ⟨rfl, hS1, hT1⟩
  have hT2 := ((Touched.alloc w sc zlev).trans hT1).trans (Touched.alloc _ sc (.cells #[.int .i64 (1 : Nat), .int .i64 (k : Nat), .string t] 88))
  have hT3 := hT1.trans (Touched.alloc _ sc (.cells #[.int .i64 (1 : Nat), .int .i64 (k : Nat), .string t] 88))
  have K3 := hide (K2.out _ (hS1.alloc (.cells #[.int .i64 (1 : Nat), .int .i64 (k : Nat), .string t] 88)) (HTb.out.touched hT2 hsc))
  have hz := hT1.size
  simp at hz
  have HT2 := hide hT2
  have HT3 := hide hT3
  clear hS1 hT1 hT2 hT3
  go_wp2_with (go_at_call 44; refine K3.out.mono ?_)
  rintro e w2 ⟨k2, nm, A, n, cap, rfl, hp2, hS2, hTT⟩
  obtain ⟨d0, d1, d2, d3, d4⟩ := lcells hlt (HT3.out.trans hTT)
  have HF := hide (lev_fill hlt (HT2.out.trans hTT) hS2 (hp2.keep fun b _ hb => ⟨by simp at hb; omega, rfl⟩) (.int .i64 k2) (.string nm) (.slice A n cap))
  clear hp2 hS2 hTT
  go_wp2_with fail
  refine bodyPost_ret (v := .agg #[.int .i64 k2, .string nm, .slice A n cap]) (by simp [results, Tryd.results25, go_sem, d0, d1, d2]) rfl ?_
  exact HF.out

end Go.Proofs.YtpdoegjddiaaoaaDoor
