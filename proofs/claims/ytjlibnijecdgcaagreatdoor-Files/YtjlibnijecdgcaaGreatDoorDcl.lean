/- The contract of the scanner's skip: it moves over a run of bytes. -/
import Derived.Test.YtjlibnijecdgcaaGreatDoorBytes
import Derived.Test.YtjlibnijecdgcaaGreatDoorGRow
import Derived.Test.YtjlibnijecdgcaaGreatDoorWrite
import Derived.Test.YtjlibnijecdgcaaGreatDoorLays
import Derived.Shelf.Strconv.AtoiErr
import Derived.Test.YtjlibnijecdgcaaGreatDoorDTermD
import Derived.Test.YtjlibnijecdgcaaGreatDoorBack

namespace Go.Proofs.YtjlibnijecdgcaaGreatDoor
open Go.RowKit

/-- The scanner of a text, at a place. -/
def ScAt (w : World) (sc : Nat) (s : ByteArray) (p : Nat) : Prop := w.heap[sc]? = some (.cells #[.string s, .int .i64 (p : Nat)] 70 (0, 0))
section
variable {w w' : World} {sc p : Nat} {s : ByteArray}
theorem ScAt.lt (h : ScAt w sc s p) : sc < w.heap.size := (Array.getElem?_eq_some_iff.1 h).1
theorem ScAt.c0 (h : ScAt w sc s p) : w.cell? ⟨sc, 0, none⟩ = some (.string s) := by unfold ScAt at h; simp [World.cell?, h]
theorem ScAt.c1 (h : ScAt w sc s p) : w.cell? ⟨sc, 1, none⟩ = some (.int .i64 (p : Nat)) := by unfold ScAt at h; simp [World.cell?, h]
theorem ScAt.f (h : ScAt w sc s p) (i : Nat) : w.frozen? ⟨sc, i, none⟩ = false := by unfold ScAt at h; simp [World.frozen?, h]
theorem ScAt.set (h : ScAt w sc s p) (q : Nat) : ScAt (w.setCell ⟨sc, 1, none⟩ (.int .i64 (q : Nat))) sc s q := by unfold ScAt at *; simp [World.setCell, Array.getElem?_modify, h]
theorem ScAt.of_block (h : ScAt w sc s p) (he : w'.heap[sc]? = w.heap[sc]?) : ScAt w' sc s p := by unfold ScAt at *; rw [he]; exact h
theorem ScAt.alloc (h : ScAt w sc s p) (o : Obj) : ScAt (w.alloc o) sc s p := h.of_block (Below.heap_alloc _ _ _ h.lt)
theorem ScAt.below (h : ScAt w sc s p) (hb : Below w.heap.size w w') : ScAt w' sc s p := h.of_block (hb.block _ h.lt)
end

theorem Touched.setSelf {w w' : World} {m : Nat} (h : Touched w m w') {a : Addr} (ha : a.block = m) (u : Value) : Touched w m (w'.setCell a u) :=
  ⟨h.os, h.tape, h.output, by simp [World.setCell]; exact h.size, fun k hk hne => by rw [Below.heap_setCell _ _ _ _ (by rw [ha]; intro e; exact hne (by rw [e]))]; exact h.block k hk hne⟩
theorem Touched.later {w w' w'' : World} {m : Nat} (h : Touched w m w') (hb : Below w'.heap.size w' w'') : Touched w m w'' := h.trans (Touched.of_below hb)

/-- The numbers of the table of shapes, as they are laid. -/
structure Parts (w : World) : Prop where
  n0 : w.cell? ⟨4, 1, none⟩ = some (.int .i64 0)
  n1 : w.cell? ⟨4, 3, none⟩ = some (.int .i64 1)
  n2 : w.cell? ⟨4, 5, none⟩ = some (.int .i64 2)
  n3 : w.cell? ⟨4, 7, none⟩ = some (.int .i64 2)
  n4 : w.cell? ⟨4, 9, none⟩ = some (.int .i64 0)

/-- A variable that holds an error, or none. -/
def ErrVar (w : World) (b : Nat) : Prop := ∃ ev, w.cell? ⟨b, 0, none⟩ = some ev ∧ (ev = .nilIface ∨ ∃ te pe, ev = .iface te pe)
theorem ErrVar.of_block {w w' : World} {b : Nat} (h : ErrVar w b) (hb : w'.heap[b]? = w.heap[b]?) : ErrVar w' b := by
  obtain ⟨ev, h1, h2⟩ := h
  exact ⟨ev, (World.cell?_of_block hb).trans h1, h2⟩

/-- The tables and what else is listed, as it is laid. -/
structure Tabs (w : World) : Prop where
  t : Table w
  s : Spans w
  n : Parts w
  es : ErrVar w 10
  er : ErrVar w 11
theorem Tabs.of_blocks {w w' : World} (h : Tabs w) (hb : ∀ k, k ≤ 11 → w'.heap[k]? = w.heap[k]?) : Tabs w' := by
  have h0 := hb 4 (by omega)
  exact ⟨⟨(World.cell?_of_block h0).trans h.t.t0, (World.cell?_of_block h0).trans h.t.t1, (World.cell?_of_block h0).trans h.t.t2, (World.cell?_of_block h0).trans h.t.t3, (World.cell?_of_block h0).trans h.t.t4⟩, h.s.of_block (hb 6 (by omega)), ⟨(World.cell?_of_block h0).trans h.n.n0, (World.cell?_of_block h0).trans h.n.n1, (World.cell?_of_block h0).trans h.n.n2, (World.cell?_of_block h0).trans h.n.n3, (World.cell?_of_block h0).trans h.n.n4⟩,
    h.es.of_block (hb 10 (by omega)), h.er.of_block (hb 11 (by omega))⟩
theorem Tabs.lt {w : World} (h : Tabs w) : 11 < w.heap.size := by obtain ⟨ev, h1, _⟩ := h.er; exact World.block_lt_of_cell? _ _ h1
theorem Tabs.touched {w w' : World} {sc : Nat} (h : Tabs w) (ht : Touched w sc w') (hs : 11 < sc) : Tabs w' :=
  h.of_blocks fun k hk => ht.block k (by have := h.lt; omega) (by simp; omega)
theorem Tabs.below {w w' : World} {B : Nat} (h : Tabs w) (hb : Below B w w') (hs : 11 < B) : Tabs w' := h.of_blocks fun k hk => hb.block k (by omega)

/-- A test of a byte. -/
structure Tests (F : FuncId) (f : Nat → Bool) : Prop where
  enter : ∀ (args : Array Value) (w' : World), Sem.run Tryz.prog (callFunc F args) w' = .ok (.enter F args) w'
  calls : ∀ (c : Nat) (w : World), c < 256 → Tabs w → Calls Tryz.prog F #[.int .u8 c] w fun e w' => e = .returned (.bool (f c)) ∧ Below w.heap.size w w'

theorem digit_tests : Tests 91 digitB := ⟨fun args w' => by simp [go_sem], fun c w hc _ => isDigit_calls c w hc⟩
theorem name_tests : Tests 93 (fun c => nameB c false) := ⟨fun args w' => by simp [go_sem], fun c w hc ht => continuesName_calls c w hc ht.s⟩

set_option maxRecDepth 100000 in
set_option maxHeartbeats 4000000 in
theorem skip_calls (F : FuncId) (f : Nat → Bool) (hF : Tests F f) (sc : Nat) (s : ByteArray) (p : Nat) (w : World) (h : ScAt w sc s p) (hs : s.size ≤ 200000) (hp : p ≤ s.size) (ht : Tabs w) (hsc : 11 < sc) :
    Calls Tryz.prog 72 #[.pointer (some ⟨sc, 0, none⟩), .func (.func F) #[] #[]] w fun e w' => e = .returned (.tuple #[]) ∧ ScAt w' sc s (runTo f s p) ∧ Touched w sc w' := by
  have HF := hide hF
  have HT := hide ht
  have H0 := hide h
  have hen := hF.enter
  clear hF ht h
  go_enter Tryz.func72, Tryz.ntmps72
  go_wp2_with fail
  go_loopg [] (s.size - p) (fun g wr => ∃ k : Nat, k + g = s.size ∧ Hid (runTo f s k = runTo f s p) ∧ Hid (ScAt wr sc s k) ∧ Hid (Touched w sc wr))
  case atStart => exact ⟨p, by omega, rfl, H0, Touched.refl _ _⟩
  case round =>
    obtain ⟨k, hkg, HR, HS, HTo⟩ := hrel
    have c0 := HS.out.c0
    have c1 := HS.out.c1
    have hlt := HS.out.lt
    by_cases hk : k < s.size
    · have e1 : decide ((k : Int) < (s.size : Int)) = true := by simp; omega
      have HC : Hid (∀ W, Below wr.heap.size wr W → Calls Tryz.prog F #[.int .u8 (at_ s k)] W fun e w' => e = .returned (.bool (f (at_ s k))) ∧ Below W.heap.size W w') := fun W hW => HF.out.calls _ W (at_lt s k) ((HT.out.touched HTo.out hsc).below hW (by omega))
      rw [← at_eq hk] at HC
      have q0 : ∀ x : Later wr.heap.size wr, x.W.cell? ⟨sc, 0, none⟩ = some (.string s) := fun x => cell_later x.h c0
      have q1 : ∀ x : Later wr.heap.size wr, x.W.cell? ⟨sc, 1, none⟩ = some (.int .i64 (k : Nat)) := fun x => cell_later x.h c1
      by_cases hf : f (at_ s k) = true
      · have HRn := hide ((runTo_step hk hf).symm.trans HR.out)
        rw [at_eq hk, hf, ← at_eq hk] at HC
        go_wp2_with fail
        refine wp_region_later (by kernel_rfl) (by kernel_rfl) (Below.refl wr.heap.size wr) ?_
        have hst := Later.some wr.heap.size wr
        iterate 21 quiet_step (fail)
        quiet_step (exact Later.calls HC.out (Nat.le_refl _) _)
        quiet_step (fail)
        refine wpQuiet_nil ?_
        intro _ hw'
        obtain ⟨x, rfl⟩ := hw'
        have hSx := HS.out.below x.h
        have y1 := hSx.c1
        have y2 := hSx.f 1
        have y3 := hSx.lt
        have HSx := hide hSx
        have HTx := hide (HTo.out.later x.h)
        clear hSx q0 q1
        go_wp2_with fail
        go_roundg (s.size - (k + 1))
        case measure => omega
        case rel => exact ⟨k + 1, by omega, HRn, by have := HSx.out.set (k + 1); simpa [Hid] using this, HTx.out.setSelf rfl _⟩
      · have hf' : f (at_ s k) = false := by simpa using hf
        have HRn := hide ((runTo_stop (s := s) (k := k) hf').symm.trans HR.out)
        rw [at_eq hk, hf', ← at_eq hk] at HC
        clear hf hf'
        go_wp2_with fail
        refine wp_region_later (by kernel_rfl) (by kernel_rfl) (Below.refl wr.heap.size wr) ?_
        have hst := Later.some wr.heap.size wr
        iterate 21 quiet_step (fail)
        quiet_step (exact Later.calls HC.out (Nat.le_refl _) _)
        quiet_step (fail)
        refine wpQuiet_nil ?_
        intro _ hw'
        obtain ⟨x, rfl⟩ := hw'
        have HSx := hide (HS.out.below x.h)
        have HTx := hide (HTo.out.later x.h)
        clear q0 q1
        go_wp2_with fail
        go_end0
        exact ⟨rfl, by rw [← HRn.out]; exact HSx.out, HTx.out⟩
    · have e1 : decide ((k : Int) < (s.size : Int)) = false := by simp; omega
      have HRn := hide ((runTo_end (f := f) (s := s) (k := k) (by omega)).symm.trans HR.out)
      go_wp2_with fail
      go_quiet (fail)
      go_wp2_with fail
      go_end0
      exact ⟨rfl, by rw [← HRn.out]; exact HS.out.below (below_drewN (Below.refl _ _) _), HTo.out.later (below_drewN (Below.refl _ _) _)⟩

end Go.Proofs.YtjlibnijecdgcaaGreatDoor

/- The contract of the scanner's number, at digits. (The library's contracts of strconv.Atoi, laid at this program's numbers.) -/
namespace Go.Proofs.YtjlibnijecdgcaaGreatDoor
open Go.RowKit

/-- What digits mean, if they mean at most that. -/
def numOf (d : ByteArray) (most : Int) : Option Int :=
  if 1 < d.size ∧ at_ d 0 = 48 then none else match Lib.atoiAll d.data.toList with | .ok v => if most < v then none else some v | _ => none

/-- Digits alone. -/

theorem digits_uint : ∀ (l : List UInt8) (acc : Nat), (∀ c ∈ l, 48 ≤ c.toNat ∧ c.toNat ≤ 57) → (∃ u, Lib.parseUint10 acc l = .ok u) ∨ Lib.parseUint10 acc l = .range
  | [], acc, _ => .inl ⟨acc, rfl⟩
  | c :: r, acc, h => by
    simp only [Lib.parseUint10]
    rw [if_pos (h c (by simp))]
    split
    · exact .inr rfl
    · split
      · exact .inr rfl
      · exact digits_uint r _ fun x hx => h x (by simp [hx])

theorem digits_int (l : List UInt8) (h : ∀ c ∈ l, 48 ≤ c.toNat ∧ c.toNat ≤ 57) (hne : l ≠ []) : (∃ v, Lib.atoiAll l = .ok v) ∨ Lib.atoiAll l = .range := by
  cases l with
  | nil => exact absurd rfl hne
  | cons c r =>
    have hc := h c (by simp)
    rw [Lib.atoiAll_plain c r (by omega) (by omega)]
    unfold Lib.parseMag
    rw [if_neg (by simp)]
    rcases digits_uint (c :: r) 0 h with ⟨u, e⟩ | e
    · rw [e]
      unfold Lib.signless
      dsimp only
      split
      · exact .inr rfl
      · exact .inl ⟨_, rfl⟩
    · rw [e]; exact .inr rfl

/-- strconv.Atoi at digits: a number, or an error. -/
theorem atoi_calls (d : ByteArray) (w : World) (hd : d.size ≤ 1000000000) (hg : Digs d) (ht : Tabs w) : Calls Tryz.prog 94 #[.string d] w fun e w' =>
    (∃ v : Int, Lib.atoiAll d.data.toList = .ok v ∧ e = .returned (.tuple #[.int .i64 v, .nilIface]) ∧ Below w.heap.size w w') ∨
    ((∀ v, Lib.atoiAll d.data.toList ≠ .ok v) ∧ ∃ (v : Int) (T : TypeId) (N : Nat), e = .returned (.tuple #[.int .i64 v, .iface T (.pointer (some ⟨N, 0, none⟩))]) ∧ Below w.heap.size w w') := by
  obtain ⟨ev, he, hev⟩ := ht.es
  obtain ⟨er, hr, her⟩ := ht.er
  by_cases hne : d.data.toList = []
  · have h0 : d.size = 0 := by have := congrArg List.length hne; simpa using this
    refine (Any.strconv_Atoi_err atLays d (by omega) (by rw [hne]; rfl) ev w he hev).mono ?_
    rintro e w' ⟨N, rfl, _, _, hb⟩
    exact .inr ⟨fun v hv => (by rw [hne] at hv; cases hv), _, _, N, rfl, hb⟩
  · rcases digits_int _ hg hne with ⟨v, h⟩ | h
    · refine (Any.strconv_Atoi_ok atLays d (by omega) v h w).mono ?_
      rintro e w' ⟨rfl, hw⟩
      refine .inl ⟨v, h, rfl, ?_⟩
      rcases hw with rfl | ⟨t, rfl⟩
      · exact Below.refl _ _
      · exact Lib.bytesWorld_below _ _ _
    · refine (Any.strconv_Atoi_range atLays d (by omega) h er w hr her).mono ?_
      rintro e w' ⟨N, rfl, _, _, hb⟩
      exact .inr ⟨fun v hv => (by rw [h] at hv; cases hv), _, _, N, rfl, hb⟩

set_option maxRecDepth 100000 in
set_option maxHeartbeats 4000000 in
theorem number_calls (d : ByteArray) (most : Int) (w : World) (hd : d.size ≤ 1000000000) (hg : Digs d) (ht : Tabs w) :
    Calls Tryz.prog 76 #[.string d, .int .i64 most] w fun e w' => e = .returned (.tuple #[.int .i64 ((numOf d most).getD 0), .bool (numOf d most).isSome]) ∧ Below w.heap.size w w' := by
  have K := hide (atoi_calls d w hd hg ht)
  by_cases h1 : 1 < d.size
  · have e1 : decide ((1 : Int) < (d.size : Int)) = true := by simp; omega
    have e1' : ((d.size : Int) > 1) := by omega
    by_cases h2 : at_ d 0 = 48
    · have hn : numOf d most = none := by unfold numOf; rw [if_pos ⟨h1, h2⟩]
      have e2 : (((d[0]'(by omega)).toNat : Int) == 48) = true := by rw [at_eq (by omega), h2]; rfl
      rw [hn]
      clear hn h2
      go_enter Tryz.func76, Tryz.ntmps76
      go_wp2_with fail
      go_ret2
      exact ⟨rfl, Below.refl _ _⟩
    · have hn : Hid (numOf d most = match Lib.atoiAll d.data.toList with | .ok v => if most < v then none else some v | _ => none) := by unfold Hid numOf; rw [if_neg (fun h => h2 h.2)]
      have e2 : (((d[0]'(by omega)).toNat : Int) == 48) = false := by rw [at_eq (by omega)]; simp; omega
      clear h2
      go_enter Tryz.func76, Tryz.ntmps76
      go_wp2_with (go_at_call 94; refine K.out.mono ?_)
      rintro e w' (⟨v, hv, rfl, hb⟩ | ⟨hv, v, T, N, rfl, hb⟩)
      · have HB := hide hb
        clear hb
        by_cases hlt : most < v
        · have e3 : decide (most < v) = true := by simp [hlt]
          have HN : Hid (numOf d most = none) := by unfold Hid; rw [hn.out, hv]; simp [hlt]
          clear hv hlt
          go_wp2_with fail
          go_ret2
          rw [HN.out]
          exact ⟨rfl, HB.out⟩
        · have e3 : decide (most < v) = false := by simp; omega
          have HN : Hid (numOf d most = some v) := by unfold Hid; rw [hn.out, hv]; simp [hlt]
          clear hv hlt
          go_wp2_with fail
          go_ret2
          rw [HN.out]
          exact ⟨rfl, HB.out⟩
      · have HB := hide hb
        have HN : Hid (numOf d most = none) := by
          unfold Hid; rw [hn.out]
          split
          · rename_i v' hv'; exact absurd hv' (hv v')
          · rfl
        clear hb hv
        go_wp2_with fail
        go_ret2
        rw [HN.out]
        exact ⟨rfl, HB.out⟩
  · have e1 : decide ((1 : Int) < (d.size : Int)) = false := by simp; omega
    have hn : Hid (numOf d most = match Lib.atoiAll d.data.toList with | .ok v => if most < v then none else some v | _ => none) := by unfold Hid numOf; rw [if_neg (fun h => h1 h.1)]
    clear h1
    go_enter Tryz.func76, Tryz.ntmps76
    go_wp2_with (go_at_call 94; refine K.out.mono ?_)
    rintro e w' (⟨v, hv, rfl, hb⟩ | ⟨hv, v, T, N, rfl, hb⟩)
    · have HB := hide hb
      clear hb
      by_cases hlt : most < v
      · have e3 : decide (most < v) = true := by simp [hlt]
        have HN : Hid (numOf d most = none) := by unfold Hid; rw [hn.out, hv]; simp [hlt]
        clear hv hlt
        go_wp2_with fail
        go_ret2
        rw [HN.out]
        exact ⟨rfl, HB.out⟩
      · have e3 : decide (most < v) = false := by simp; omega
        have HN : Hid (numOf d most = some v) := by unfold Hid; rw [hn.out, hv]; simp [hlt]
        clear hv hlt
        go_wp2_with fail
        go_ret2
        rw [HN.out]
        exact ⟨rfl, HB.out⟩
    · have HB := hide hb
      have HN : Hid (numOf d most = none) := by
        unfold Hid; rw [hn.out]
        split
        · rename_i v' hv'; exact absurd hv' (hv v')
        · rfl
      clear hb hv
      go_wp2_with fail
      go_ret2
      rw [HN.out]
      exact ⟨rfl, HB.out⟩

end Go.Proofs.YtjlibnijecdgcaaGreatDoor

/- Declarations: how they stand in a text, their text, and that a printed one is read again. Plain Lean, no walk. -/
namespace Go.Proofs.YtjlibnijecdgcaaGreatDoor
open Go.RowKit

/-- The zero term. -/
abbrev zeroT : Tm := .node 0 0 ⟨#[]⟩ [] []
/-- A declaration. -/
structure Dc where
  kd : Nat
  nm : ByteArray
  ps : List ByteArray
  ty : Tm
  vl : Tm
  ar : Nat
  cs : List (ByteArray × Tm)

def dword : Nat → ByteArray
  | 1 => ⟨#[97, 120, 105, 111, 109]⟩
  | 2 => ⟨#[100, 101, 102]⟩
  | 3 => ⟨#[105, 110, 100, 117, 99, 116, 105, 118, 101]⟩
  | _ => ⟨#[]⟩
def cword : ByteArray := ⟨#[99, 116, 111, 114]⟩

/-- A word of declarations, and its kind. -/
def DKind (q : ByteArray) (kd : Nat) : Prop := 1 ≤ kd ∧ kd ≤ 3 ∧ q = dword kd

/-- Names stand there, one behind the other. -/
def NamesAt (s : ByteArray) : List ByteArray → Nat → Nat → Prop
  | [], p, p' => p' = p
  | q :: qs, p, p' => ∃ p1, WordAt s q p p1 ∧ NamesAt s qs p1 p'
/-- Names in brackets. -/
def ParamsAt (s : ByteArray) (ps : List ByteArray) (p p' : Nat) : Prop := ∃ p1 p2, SignAt s 40 p p1 ∧ NamesAt s ps p1 p2 ∧ SignAt s 41 p2 p'
/-- A number of at most 99 stands there. -/
def NumAt (s : ByteArray) (n p p' : Nat) : Prop := runTo blankB s p < s.size ∧ digitB (at_ s (runTo blankB s p)) = true ∧ p' = digitEnd s (runTo blankB s p) ∧ numOf (s.extract (runTo blankB s p) p') 99 = some (n : Int)
/-- A constructor stands there. -/
def CtorAt (s : ByteArray) (D : Nat) (c : ByteArray × Tm) (p p' : Nat) : Prop := ∃ p1 p2 p3 p4, SignAt s 40 p p1 ∧ WordAt s cword p1 p2 ∧ WordAt s c.1 p2 p3 ∧ RT s D c.2 p3 p4 ∧ SignAt s 41 p4 p'
def CtorsAt (s : ByteArray) (D : Nat) : List (ByteArray × Tm) → Nat → Nat → Prop
  | [], p, p' => p' = p
  | c :: cs, p, p' => ∃ p1, CtorAt s D c p p1 ∧ CtorsAt s D cs p1 p'
/-- A declaration stands there. -/
def DeclAt (s : ByteArray) (D : Nat) (d : Dc) (p p' : Nat) : Prop := ∃ p1 p2 p3 p4 p5 p6 p7 p8, SignAt s 40 p p1 ∧ (1 ≤ d.kd ∧ d.kd ≤ 3) ∧ WordAt s (dword d.kd) p1 p2 ∧ WordAt s d.nm p2 p3 ∧ ParamsAt s d.ps p3 p4 ∧
  ((d.kd = 3 ∧ NumAt s d.ar p4 p5) ∨ (d.kd ≠ 3 ∧ d.ar = 0 ∧ p5 = p4)) ∧ RT s D d.ty p5 p6 ∧ ((d.kd = 2 ∧ RT s D d.vl p6 p7) ∨ (d.kd ≠ 2 ∧ d.vl = zeroT ∧ p7 = p6)) ∧ ((d.kd = 3 ∧ CtorsAt s D d.cs p7 p8) ∨ (d.kd ≠ 3 ∧ d.cs = [] ∧ p8 = p7)) ∧ SignAt s 41 p8 p'
def DeclsAt (s : ByteArray) (D : Nat) : List Dc → Nat → Nat → Prop
  | [], p, p' => p' = p
  | d :: ds, p, p' => ∃ p1, DeclAt s D d p p1 ∧ DeclsAt s D ds p1 p'

/-- Texts, a blank between two. -/
def joinS : List (List UInt8) → List UInt8
  | [] => []
  | x :: xs => x ++ spaced id xs
def inB (xs : List (List UInt8)) : List UInt8 := 40 :: (joinS xs ++ [41])
def ctext (D : Nat) (c : ByteArray × Tm) : List UInt8 := inB [cword.data.toList, c.1.data.toList, textT D c.2]
def dparts (D : Nat) (d : Dc) : List (List UInt8) := dword d.kd |>.data.toList |> fun w => [w, d.nm.data.toList, inB (d.ps.map fun q => q.data.toList)] ++ ((if d.kd = 3 then [Lib.decDigits d.ar] else []) ++ (textT D d.ty :: ((if d.kd = 2 then [textT D d.vl] else []) ++ (if d.kd = 3 then d.cs.map (ctext D) else []))))
def dtext (D : Nat) (d : Dc) : List UInt8 := inB (dparts D d)
def ftext (D : Nat) (ds : List Dc) : List UInt8 := ds.flatMap fun d => dtext D d ++ [10]

/-- A declaration as one that was read. -/
structure GoodD (D : Nat) (d : Dc) : Prop where
  k1 : 1 ≤ d.kd
  k3 : d.kd ≤ 3
  nm : Nm d.nm
  ps : ∀ q ∈ d.ps, Nm q
  ar : d.ar ≤ 99
  ar0 : d.kd ≠ 3 → d.ar = 0
  ty : GoodT D d.ty
  vl : d.kd = 2 → GoodT D d.vl
  vl0 : d.kd ≠ 2 → d.vl = zeroT
  cs : ∀ c ∈ d.cs, Nm c.1 ∧ GoodT D c.2
  cs0 : d.kd ≠ 3 → d.cs = []

theorem NamesAt.nm {s : ByteArray} : ∀ {qs : List ByteArray} {p p' : Nat}, NamesAt s qs p p' → ∀ q ∈ qs, Nm q
  | [], _, _, _, _, h => absurd h (by simp)
  | a :: qs, _, _, ⟨_, h1, h2⟩, q, hq => by
    rcases List.mem_cons.1 hq with rfl | hq
    · exact h1.nm
    · exact NamesAt.nm h2 q hq
theorem CtorsAt.good {s : ByteArray} {D : Nat} : ∀ {cs : List (ByteArray × Tm)} {p p' : Nat}, CtorsAt s D cs p p' → ∀ c ∈ cs, Nm c.1 ∧ GoodT D c.2
  | [], _, _, _, _, h => absurd h (by simp)
  | a :: cs, _, _, ⟨_, ⟨_, _, _, _, _, _, h3, h4, _⟩, h2⟩, c, hc => by
    rcases List.mem_cons.1 hc with rfl | hc
    · exact ⟨h3.nm, h4.good⟩
    · exact CtorsAt.good h2 c hc
theorem numOf_le {d : ByteArray} {n : Nat} (h : numOf d 99 = some (n : Int)) : n ≤ 99 := by
  unfold numOf at h
  split at h
  · cases h
  · split at h
    · split at h
      · cases h
      · injection h with h; omega
    · cases h
theorem DeclAt.good {s : ByteArray} {D : Nat} {d : Dc} {p p' : Nat} (h : DeclAt s D d p p') : GoodD D d := by
  obtain ⟨p1, p2, p3, p4, p5, p6, p7, p8, h1, ⟨k1, k3⟩, h2, h3, ⟨x, y, _, hp, _⟩, h5, h6, h7, h8, _⟩ := h
  refine ⟨k1, k3, h3.nm, hp.nm, ?_, ?_, h6.good, ?_, ?_, ?_, ?_⟩
  · rcases h5 with ⟨_, h⟩ | ⟨_, h, _⟩
    · exact numOf_le h.2.2.2
    · omega
  · rcases h5 with ⟨hk, _⟩ | ⟨_, h, _⟩
    · exact fun hn => absurd hk hn
    · exact fun _ => h
  · rcases h7 with ⟨_, h⟩ | ⟨hk, _⟩
    · exact fun _ => h.good
    · exact fun hn => absurd hn hk
  · rcases h7 with ⟨hk, _⟩ | ⟨_, h, _⟩
    · exact fun hn => absurd hk hn
    · exact fun _ => h
  · rcases h8 with ⟨_, h⟩ | ⟨_, h, _⟩
    · exact h.good
    · rw [h]; simp
  · rcases h8 with ⟨hk, _⟩ | ⟨_, h, _⟩
    · exact fun hn => absurd hk hn
    · exact fun _ => h

theorem dword_nm {k : Nat} (h1 : 1 ≤ k) (h3 : k ≤ 3) : Nm (dword k) := by
  have : k = 1 ∨ k = 2 ∨ k = 3 := by omega
  rcases this with rfl | rfl | rfl
  · refine ⟨by decide, by decide, by decide, by decide⟩
  · refine ⟨by decide, by decide, by decide, by decide⟩
  · refine ⟨by decide, by decide, by decide, by decide⟩
theorem cword_nm : Nm cword := by refine ⟨by decide, by decide, by decide, by decide⟩

theorem len_data (q : ByteArray) : q.data.toList.length = q.size := by rw [Array.length_toList]; rfl

/-- A name at the head of what stands there. -/
theorem word_here {s q : ByteArray} {p : Nat} {u : List UInt8} (hq : Nm q) (h : Has s p (q.data.toList ++ u)) (hst : Stop s (p + q.data.toList.length)) : WordAt s q p (p + q.data.toList.length) := by
  rw [len_data] at hst ⊢
  exact has_word hq h.left hst

/-- Names behind blanks. -/
theorem names_text {s : ByteArray} : ∀ (qs : List ByteArray) (p : Nat), (∀ q ∈ qs, Nm q) → Has s p (spaced id (qs.map fun q => q.data.toList)) → Stop s (p + (spaced id (qs.map fun q => q.data.toList)).length) → NamesAt s qs p (p + (spaced id (qs.map fun q => q.data.toList)).length)
  | [], _, _, _, _ => rfl
  | q :: qs, p, hn, h, hst => by
    rw [List.map_cons, spaced_cons] at h hst ⊢
    have h1 := h.head.2.2
    have h2 := h1.right
    have el : p + (32 :: (id q.data.toList ++ spaced id (qs.map fun q => q.data.toList))).length = p + 1 + q.data.toList.length + (spaced id (qs.map fun q => q.data.toList)).length := by simp only [List.length_cons, List.length_append, id]; omega
    rw [el] at hst ⊢
    have hs2 : Stop s (p + 1 + q.data.toList.length) := spaced_stop (f := id) (qs.map fun q => q.data.toList) (u := []) (by rw [List.append_nil]; exact h2) (fun e => by simpa [e, spaced] using hst)
    exact ⟨p + 1 + q.data.toList.length, WordAt.ahead (has_blank h) (word_here (hn q (by simp)) h1 hs2), names_text qs _ (fun x hx => hn x (by simp [hx])) h2 hst⟩

theorem NamesAt.of_join {s : ByteArray} : ∀ (qs : List ByteArray) (p : Nat), (∀ q ∈ qs, Nm q) → Has s p (joinS (qs.map fun q => q.data.toList)) → Stop s (p + (joinS (qs.map fun q => q.data.toList)).length) → NamesAt s qs p (p + (joinS (qs.map fun q => q.data.toList)).length)
  | [], _, _, _, _ => rfl
  | q :: qs, p, hn, h, hst => by
    have e : joinS ((q :: qs).map fun q => q.data.toList) = q.data.toList ++ spaced id (qs.map fun q => q.data.toList) := rfl
    rw [e] at h hst ⊢
    have h2 := h.right
    have el : p + (q.data.toList ++ spaced id (qs.map fun q => q.data.toList)).length = p + q.data.toList.length + (spaced id (qs.map fun q => q.data.toList)).length := by simp only [List.length_append]; omega
    rw [el] at hst ⊢
    have hs2 : Stop s (p + q.data.toList.length) := spaced_stop (f := id) (qs.map fun q => q.data.toList) (u := []) (by rw [List.append_nil]; exact h2) (fun e => by simpa [e, spaced] using hst)
    exact ⟨p + q.data.toList.length, word_here (hn q (by simp)) h hs2, names_text qs _ (fun x hx => hn x (by simp [hx])) h2 hst⟩

theorem params_text {s : ByteArray} {qs : List ByteArray} {p : Nat} (hn : ∀ q ∈ qs, Nm q) (h : Has s p (inB (qs.map fun q => q.data.toList))) : ParamsAt s qs p (p + (inB (qs.map fun q => q.data.toList)).length) := by
  unfold inB at h ⊢
  have h1 := h.head.2.2
  have h2 := h1.right
  have el : p + (40 :: (joinS (qs.map fun q => q.data.toList) ++ [41])).length = p + 1 + (joinS (qs.map fun q => q.data.toList)).length + 1 := by simp only [List.length_cons, List.length_append, List.length_nil]; omega
  rw [el]
  exact ⟨p + 1, _, has_sign h (by decide), NamesAt.of_join qs (p + 1) hn h1.left (Stop.of (c := 41) h2.head.2.1 (.inr (.inl rfl))), has_sign h2 (by decide)⟩

theorem ParamsAt.ahead {s : ByteArray} {ps : List ByteArray} {p p1 p' : Nat} (h : runTo blankB s p = runTo blankB s p1) (hs : ParamsAt s ps p1 p') : ParamsAt s ps p p' := by
  obtain ⟨x, y, h1, h2⟩ := hs
  exact ⟨x, y, h1.ahead h, h2⟩
theorem NumAt.ahead {s : ByteArray} {n p p1 p' : Nat} (h : runTo blankB s p = runTo blankB s p1) (hs : NumAt s n p1 p') : NumAt s n p p' := by unfold NumAt at *; rw [h]; exact hs
theorem CtorAt.ahead {s : ByteArray} {D : Nat} {c : ByteArray × Tm} {p p1 p' : Nat} (h : runTo blankB s p = runTo blankB s p1) (hs : CtorAt s D c p1 p') : CtorAt s D c p p' := by
  obtain ⟨x, y, z, u, h1, h2⟩ := hs
  exact ⟨x, y, z, u, h1.ahead h, h2⟩
theorem DeclAt.ahead {s : ByteArray} {D : Nat} {d : Dc} {p p1 p' : Nat} (h : runTo blankB s p = runTo blankB s p1) (hs : DeclAt s D d p1 p') : DeclAt s D d p p' := by
  obtain ⟨x1, x2, x3, x4, x5, x6, x7, x8, h1, h2⟩ := hs
  exact ⟨x1, x2, x3, x4, x5, x6, x7, x8, h1.ahead h, h2⟩

/-- What a small number's digits mean. -/
theorem num_small (n : Nat) (hn : n ≤ 99) : numOf ⟨(Lib.decDigits n).toArray⟩ 99 = some (n : Int) := by
  have : n = 0 ∨ n = 1 ∨ n = 2 ∨ n = 3 ∨ n = 4 ∨ n = 5 ∨ n = 6 ∨ n = 7 ∨ n = 8 ∨ n = 9 ∨ 10 ≤ n := by omega
  by_cases h1 : n < 10
  · rw [Lib.decDigits_one h1]
    rcases this with rfl | rfl | rfl | rfl | rfl | rfl | rfl | rfl | rfl | rfl | h
    all_goals first | (exact absurd h (by omega)) | decide
  · have h2 : n < 100 := by omega
    rw [Lib.decDigits_two h1 h2]
    have key : ∀ k : Fin 100, 10 ≤ k.val → numOf ⟨([UInt8.ofNat (48 + k.val / 10), UInt8.ofNat (48 + k.val % 10)] : List UInt8).toArray⟩ 99 = some ((k.val : Nat) : Int) := by decide
    exact key ⟨n, h2⟩ (by show 10 ≤ n; omega)

theorem num_text {s : ByteArray} {n p : Nat} (hn : n ≤ 99) (h : Has s p (Lib.decDigits n)) (hst : Stop s (p + (Lib.decDigits n).length)) : NumAt s n p (p + (Lib.decDigits n).length) := by
  obtain ⟨c, r, ec, _⟩ := dec_first n
  have hd := dec_digs n
  have h0 : at_ s p = c.toNat := by rw [ec] at h; exact h.head.2.1
  have hc := hd c (by rw [ec]; simp)
  have hlt : p < s.size := by have := h.1; rw [ec] at this; simp at this; omega
  have hb : runTo blankB s p = p := runTo_stop (by rw [h0]; simp [blankB]; omega)
  have hpos : 0 < (Lib.decDigits n).length := by rw [ec]; simp
  have hend : digitEnd s p = p + (Lib.decDigits n).length := by
    show runTo digitB s (p + 1) = _
    have hr := runTo_run (f := digitB) (s := s) ((Lib.decDigits n).length - 1) (p + 1) (by have := h.1; omega) fun i hi => by
      have e : p + 1 + i = p + (i + 1) := by omega
      rw [e, h.2 (i + 1) (by omega)]
      have := hd _ (List.getElem_mem (l := Lib.decDigits n) (n := i + 1) (by omega))
      simp [digitB]
      omega
    rw [hr, show p + 1 + ((Lib.decDigits n).length - 1) = p + (Lib.decDigits n).length by omega, runTo_stop hst.2]
  unfold NumAt
  rw [hb]
  refine ⟨hlt, by rw [h0]; simp [digitB]; omega, hend.symm, ?_⟩
  have hx : s.extract p (p + (Lib.decDigits n).length) = ⟨(Lib.decDigits n).toArray⟩ := by
    rw [ByteArray.ext_iff]
    exact Array.ext' ((has_extract h).trans (by simp))
  rw [hx]
  exact num_small n hn

theorem ctor_text {s : ByteArray} {D : Nat} {c : ByteArray × Tm} {p : Nat} (hn : Nm c.1) (hg : GoodT D c.2) (h : Has s p (ctext D c)) : CtorAt s D c p (p + (ctext D c).length) := by
  have hx : ctext D c = 40 :: (cword.data.toList ++ (32 :: (c.1.data.toList ++ (32 :: (textT D c.2 ++ [41]))))) := by simp [ctext, inB, joinS, spaced]
  rw [hx] at h ⊢
  have g1 := h.head.2.2
  have g2 := g1.right
  have g3 := g2.head.2.2
  have g4 := g3.right
  have g5 := g4.head.2.2
  have g6 := g5.right
  have el : p + (40 :: (cword.data.toList ++ (32 :: (c.1.data.toList ++ (32 :: (textT D c.2 ++ [41])))))).length = p + 1 + cword.data.toList.length + 1 + c.1.data.toList.length + 1 + (textT D c.2).length + 1 := by simp only [List.length_cons, List.length_append, List.length_nil]; omega
  rw [el]
  exact ⟨_, _, _, _, has_sign h (by decide), word_here cword_nm g1 (Stop.of (c := 32) g2.head.2.1 (.inl rfl)), WordAt.ahead (has_blank g2) (word_here hn g3 (Stop.of (c := 32) g4.head.2.1 (.inl rfl))),
    RT.ahead (has_blank g4) (textT_reads D c.2 _ hg g5.left (Stop.of (c := 41) g6.head.2.1 (.inr (.inl rfl)))), has_sign g6 (by decide)⟩

theorem ctors_text {s : ByteArray} {D : Nat} : ∀ (cs : List (ByteArray × Tm)) (p : Nat), (∀ c ∈ cs, Nm c.1 ∧ GoodT D c.2) → Has s p (spaced id (cs.map (ctext D))) → CtorsAt s D cs p (p + (spaced id (cs.map (ctext D))).length)
  | [], _, _, _ => rfl
  | c :: cs, p, hn, h => by
    rw [List.map_cons, spaced_cons] at h ⊢
    have h1 := h.head.2.2
    have h2 := h1.right
    have el : p + (32 :: (id (ctext D c) ++ spaced id (cs.map (ctext D)))).length = p + 1 + (ctext D c).length + (spaced id (cs.map (ctext D))).length := by simp only [List.length_cons, List.length_append, id]; omega
    rw [el]
    exact ⟨_, CtorAt.ahead (has_blank h) (ctor_text (hn c (by simp)).1 (hn c (by simp)).2 h1.left), ctors_text cs _ (fun x hx => hn x (by simp [hx])) h2⟩

theorem spaced_app {α : Type} (f : α → List UInt8) (xs ys : List α) : spaced f (xs ++ ys) = spaced f xs ++ spaced f ys := by unfold spaced; rw [List.flatMap_append]

/-- A printed declaration stands there. -/
theorem decl_text {s : ByteArray} {D : Nat} {d : Dc} {p : Nat} (hg : GoodD D d) (h : Has s p (dtext D d)) : DeclAt s D d p (p + (dtext D d).length) := by
  obtain ⟨A, hA⟩ : ∃ A, A = spaced id (if d.kd = 3 then [Lib.decDigits d.ar] else []) := ⟨_, rfl⟩
  obtain ⟨B, hB⟩ : ∃ B, B = spaced id (if d.kd = 2 then [textT D d.vl] else []) := ⟨_, rfl⟩
  obtain ⟨C, hC⟩ : ∃ C, C = spaced id (if d.kd = 3 then d.cs.map (ctext D) else []) := ⟨_, rfl⟩
  have hx : dtext D d = 40 :: ((dword d.kd).data.toList ++ (32 :: (d.nm.data.toList ++ (32 :: (inB (d.ps.map fun q => q.data.toList) ++ (A ++ (32 :: (textT D d.ty ++ (B ++ (C ++ [41])))))))))) := by
    rw [hA, hB, hC]
    unfold dtext dparts
    have e1 : ∀ w n q : List UInt8, ∀ X Y Z : List (List UInt8), ∀ t : List UInt8, inB ([w, n, q] ++ (X ++ (t :: (Y ++ Z)))) = 40 :: (w ++ (32 :: (n ++ (32 :: (q ++ (spaced id X ++ (32 :: (t ++ (spaced id Y ++ (spaced id Z ++ [41])))))))))) := by
      intro w n q X Y Z t
      show 40 :: ((w ++ spaced id (n :: q :: (X ++ (t :: (Y ++ Z))))) ++ [41]) = _
      rw [spaced_cons, spaced_cons, spaced_app, spaced_cons, spaced_app]
      simp
    exact e1 _ _ _ _ _ _ _
  rw [hx] at h ⊢
  have g1 := h.head.2.2
  have g2 := g1.right
  have g3 := g2.head.2.2
  have g4 := g3.right
  have g5 := g4.head.2.2
  have g6 := g5.right
  have g7 := g6.right
  have g8 := g7.head.2.2
  have g9 := g8.right
  have g10 := g9.right
  have g11 := g10.right
  have el : p + (40 :: ((dword d.kd).data.toList ++ (32 :: (d.nm.data.toList ++ (32 :: (inB (d.ps.map fun q => q.data.toList) ++ (A ++ (32 :: (textT D d.ty ++ (B ++ (C ++ [41]))))))))))).length = p + 1 + (dword d.kd).data.toList.length + 1 + d.nm.data.toList.length + 1 + (inB (d.ps.map fun q => q.data.toList)).length + A.length + 1 + (textT D d.ty).length + B.length + C.length + 1 := by
    simp only [List.length_cons, List.length_append, List.length_nil]; omega
  rw [el]
  have s11 : Stop s (p + 1 + (dword d.kd).data.toList.length + 1 + d.nm.data.toList.length + 1 + (inB (d.ps.map fun q => q.data.toList)).length + A.length + 1 + (textT D d.ty).length + B.length + C.length) := Stop.of (c := 41) g11.head.2.1 (.inr (.inl rfl))
  have s10 : Stop s (p + 1 + (dword d.kd).data.toList.length + 1 + d.nm.data.toList.length + 1 + (inB (d.ps.map fun q => q.data.toList)).length + A.length + 1 + (textT D d.ty).length + B.length) := by
    rw [hC] at g10
    refine spaced_stop (f := id) _ g10 fun e => ?_
    rw [hC, e] at s11
    simpa [spaced] using s11
  have s9 : Stop s (p + 1 + (dword d.kd).data.toList.length + 1 + d.nm.data.toList.length + 1 + (inB (d.ps.map fun q => q.data.toList)).length + A.length + 1 + (textT D d.ty).length) := by
    rw [hB] at g9
    refine spaced_stop (f := id) _ g9 fun e => ?_
    rw [hB, e] at s10
    simpa [spaced] using s10
  have s7 : Stop s (p + 1 + (dword d.kd).data.toList.length + 1 + d.nm.data.toList.length + 1 + (inB (d.ps.map fun q => q.data.toList)).length + A.length) := Stop.of (c := 32) g7.head.2.1 (.inl rfl)
  refine ⟨_, _, _, _, p + 1 + (dword d.kd).data.toList.length + 1 + d.nm.data.toList.length + 1 + (inB (d.ps.map fun q => q.data.toList)).length + A.length, _, p + 1 + (dword d.kd).data.toList.length + 1 + d.nm.data.toList.length + 1 + (inB (d.ps.map fun q => q.data.toList)).length + A.length + 1 + (textT D d.ty).length + B.length, p + 1 + (dword d.kd).data.toList.length + 1 + d.nm.data.toList.length + 1 + (inB (d.ps.map fun q => q.data.toList)).length + A.length + 1 + (textT D d.ty).length + B.length + C.length,
    has_sign h (by decide), ⟨hg.k1, hg.k3⟩, word_here (dword_nm hg.k1 hg.k3) g1 (Stop.of (c := 32) g2.head.2.1 (.inl rfl)), WordAt.ahead (has_blank g2) (word_here hg.nm g3 (Stop.of (c := 32) g4.head.2.1 (.inl rfl))),
    ParamsAt.ahead (has_blank g4) (params_text hg.ps g5.left), ?_, RT.ahead (has_blank g7) (textT_reads D d.ty _ hg.ty g8.left s9), ?_, ?_, has_sign g11 (by decide)⟩
  · by_cases hk : d.kd = 3
    · rw [if_pos hk] at hA
      refine .inl ⟨hk, ?_⟩
      have e : A = 32 :: Lib.decDigits d.ar := by rw [hA]; simp [spaced]
      rw [e] at g6 s7 ⊢
      have g6' : Has s (p + 1 + (dword d.kd).data.toList.length + 1 + d.nm.data.toList.length + 1 + (inB (d.ps.map fun q => q.data.toList)).length) (32 :: (Lib.decDigits d.ar ++ (32 :: (textT D d.ty ++ (B ++ (C ++ [41])))))) := g6
      have e1 : p + 1 + (dword d.kd).data.toList.length + 1 + d.nm.data.toList.length + 1 + (inB (d.ps.map fun q => q.data.toList)).length + (32 :: Lib.decDigits d.ar).length = p + 1 + (dword d.kd).data.toList.length + 1 + d.nm.data.toList.length + 1 + (inB (d.ps.map fun q => q.data.toList)).length + 1 + (Lib.decDigits d.ar).length := by rw [List.length_cons]; omega
      rw [e1] at s7 ⊢
      exact NumAt.ahead (has_blank g6') (num_text hg.ar g6'.head.2.2.left s7)
    · rw [if_neg hk] at hA
      have e : A = [] := by rw [hA]; rfl
      exact .inr ⟨hk, hg.ar0 hk, by rw [e]; rfl⟩
  · by_cases hk : d.kd = 2
    · rw [if_pos hk] at hB
      refine .inl ⟨hk, ?_⟩
      have e : B = 32 :: textT D d.vl := by rw [hB]; simp [spaced]
      rw [e] at g9 s10 ⊢
      have g9' : Has s (p + 1 + (dword d.kd).data.toList.length + 1 + d.nm.data.toList.length + 1 + (inB (d.ps.map fun q => q.data.toList)).length + A.length + 1 + (textT D d.ty).length) (32 :: (textT D d.vl ++ (C ++ [41]))) := g9
      have e1 : p + 1 + (dword d.kd).data.toList.length + 1 + d.nm.data.toList.length + 1 + (inB (d.ps.map fun q => q.data.toList)).length + A.length + 1 + (textT D d.ty).length + (32 :: textT D d.vl).length = p + 1 + (dword d.kd).data.toList.length + 1 + d.nm.data.toList.length + 1 + (inB (d.ps.map fun q => q.data.toList)).length + A.length + 1 + (textT D d.ty).length + 1 + (textT D d.vl).length := by rw [List.length_cons]; omega
      rw [e1] at s10 ⊢
      exact RT.ahead (has_blank g9') (textT_reads D d.vl _ (hg.vl hk) g9'.head.2.2.left s10)
    · rw [if_neg hk] at hB
      have e : B = [] := by rw [hB]; rfl
      exact .inr ⟨hk, hg.vl0 hk, by rw [e]; rfl⟩
  · by_cases hk : d.kd = 3
    · rw [if_pos hk] at hC
      refine .inl ⟨hk, ?_⟩
      rw [hC] at g10 ⊢
      exact ctors_text d.cs _ hg.cs g10.left
    · rw [if_neg hk] at hC
      have e : C = [] := by rw [hC]; rfl
      exact .inr ⟨hk, hg.cs0 hk, by rw [e]; rfl⟩

/-- Printed declarations, each on a line. -/
theorem decls_text {s : ByteArray} {D : Nat} : ∀ (ds : List Dc) (p : Nat), (∀ d ∈ ds, GoodD D d) → Has s p (ftext D ds) → p + (ftext D ds).length = s.size → ∃ p', DeclsAt s D ds p p' ∧ runTo blankB s p' = s.size
  | [], p, _, _, e => ⟨p, rfl, by have e' : p = s.size := e; rw [e', runTo_end (Nat.le_refl _)]⟩
  | d :: ds, p, hg, h, e => by
    have hx : ftext D (d :: ds) = dtext D d ++ (10 :: ftext D ds) := by simp [ftext]
    rw [hx] at h e
    have h1 := decl_text (hg d (by simp)) h.left
    have g2 := h.right
    have hb : runTo blankB s (p + (dtext D d).length) = runTo blankB s (p + (dtext D d).length + 1) := runTo_step g2.head.1 (by rw [g2.head.2.1]; decide)
    obtain ⟨p', h3, h4⟩ := decls_text ds (p + (dtext D d).length + 1) (fun x hx => hg x (by simp [hx])) g2.head.2.2 (by simp only [List.length_append, List.length_cons] at e; omega)
    cases ds with
    | nil =>
      refine ⟨p + (dtext D d).length, ⟨_, h1, rfl⟩, ?_⟩
      have e' : p' = p + (dtext D d).length + 1 := h3
      rw [hb, ← e']
      exact h4
    | cons d2 ds =>
      obtain ⟨p2, h5, h6⟩ := h3
      exact ⟨p', ⟨_, h1, p2, h5.ahead hb, h6⟩, h4⟩

end Go.Proofs.YtjlibnijecdgcaaGreatDoor
