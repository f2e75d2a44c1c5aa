/- The contracts of the scanner's advance, is, took, refuse, expect, take, name. -/
import Derived.Test.YtockffblncdikaaGreatDoorSg
namespace Go.Proofs.YtockffblncdikaaGreatDoor
open Go.RowKit
set_option maxRecDepth 100000
set_option maxHeartbeats 16000000
theorem cell_later {w W : World} {a : Addr} {v : Value} (hb : Below w.heap.size w W) (h : w.cell? a = some v) : W.cell? a = some v := by
 rw [World.cell?_of_block (hb.block _ (World.block_lt_of_cell? _ _ h))]; exact h
theorem Touched.later {w w' w'' : World} {m : Nat} (h : Touched w m w') (hb : Below w'.heap.size w' w'') : Touched w m w'' := h.trans (Touched.of_below hb)
theorem Touched.set {w w' : World} {m : Nat} (h : Touched w m w') (i : Nat) (u : Value) : Touched w m (w'.setCell ⟨m, i, none⟩ u) :=
 ⟨h.os, h.tape, h.output, by simp [World.setCell]; exact h.size, fun k hk hne => by
   have hk' : k ≠ m := by simpa using hne
   rw [Below.heap_setCell _ _ _ _ hk']; exact h.block k hk hne⟩
theorem step_pure {ops : Array Oper} {o : Oper} {a : Act} {w : World} {K : Act -> World -> Prop} {Q : Exit -> Act -> World -> Prop} {E : Prop} {args : Array Value} {f : FuncId} {v : Value}
 (hg : o.guard = none) (hrun : (execOp a.eval o).run Tryz.prog w = .ok (.enter f args) w) (hc : Calls Tryz.prog f args w fun e w' => e = .returned v /\ w' = w) (hK : K (a.put o.dst v) w) :
 if Region.wanted o (yielded ops a.tmps) = true then Oper.wp Tryz.prog o a w K Q else E := by
 have hw : Region.wanted o (yielded ops a.tmps) = true := by simp [Region.wanted, hg]
 rw [if_pos hw]; unfold Oper.wp; rw [hrun]; refine hc.mono ?_; rintro e w' ⟨rfl, rfl⟩; exact hK
abbrev scs (s : ByteArray) (k a : Int) (t : ByteArray) (r : Int) (x : List Value) : Array Value := (.string s :: .int .i64 k :: .int .i64 a :: .string t :: .int .i64 r :: x).toArray
def ScW (w : World) (b : Nat) (T : TypeId) (x : List Value) (s : ByteArray) (k a : Int) (t : ByteArray) (r : Int) : Prop := w.heap[b]? = some (.cells (scs s k a t r x) T (0, 0))
section
variable {w w' : World} {b : Nat} {T : TypeId} {x : List Value} {s : ByteArray} {k a : Int} {t : ByteArray} {r : Int}
theorem ScW.lt (h : ScW w b T x s k a t r) : b < w.heap.size := (Array.getElem?_eq_some_iff.1 h).1
theorem ScW.c0 (h : ScW w b T x s k a t r) : w.cell? ⟨b, 0, none⟩ = some (.string s) := cell_of h 0 (by simp)
theorem ScW.c1 (h : ScW w b T x s k a t r) : w.cell? ⟨b, 1, none⟩ = some (.int .i64 k) := cell_of h 1 (by simp)
theorem ScW.c2 (h : ScW w b T x s k a t r) : w.cell? ⟨b, 2, none⟩ = some (.int .i64 a) := cell_of h 2 (by simp)
theorem ScW.c3 (h : ScW w b T x s k a t r) : w.cell? ⟨b, 3, none⟩ = some (.string t) := cell_of h 3 (by simp)
theorem ScW.c4 (h : ScW w b T x s k a t r) : w.cell? ⟨b, 4, none⟩ = some (.int .i64 r) := cell_of h 4 (by simp)
theorem ScW.f (h : ScW w b T x s k a t r) (i : Nat) : w.frozen? ⟨b, i, none⟩ = false := frozen_of h i
theorem ScW.of_block (h : ScW w b T x s k a t r) (he : w'.heap[b]? = w.heap[b]?) : ScW w' b T x s k a t r := by unfold ScW at *; rw [he]; exact h
theorem ScW.later (h : ScW w b T x s k a t r) (hb : Below w.heap.size w w') : ScW w' b T x s k a t r := h.of_block (hb.block _ h.lt)
theorem ScW.alloc (h : ScW w b T x s k a t r) (o : Obj) : ScW (w.alloc o) b T x s k a t r := h.of_block (Below.heap_alloc _ _ _ h.lt)
theorem ScW.drewN (h : ScW w b T x s k a t r) (n : Nat) : ScW (w.drewN n) b T x s k a t r := h.later (below_drewN (Below.refl _ _) n)
theorem ScW.set1 (h : ScW w b T x s k a t r) (u : Int) : ScW (w.setCell ⟨b, 1, none⟩ (.int .i64 u)) b T x s u a t r := by unfold ScW at *; simp [World.setCell, Array.getElem?_modify, h]
theorem ScW.set2 (h : ScW w b T x s k a t r) (u : Int) : ScW (w.setCell ⟨b, 2, none⟩ (.int .i64 u)) b T x s k u t r := by unfold ScW at *; simp [World.setCell, Array.getElem?_modify, h]
theorem ScW.set3 (h : ScW w b T x s k a t r) (u : ByteArray) : ScW (w.setCell ⟨b, 3, none⟩ (.string u)) b T x s k a u r := by unfold ScW at *; simp [World.setCell, Array.getElem?_modify, h]
theorem ScW.set4 (h : ScW w b T x s k a t r) (u : Int) : ScW (w.setCell ⟨b, 4, none⟩ (.int .i64 u)) b T x s k a t u := by unfold ScW at *; simp [World.setCell, Array.getElem?_modify, h]
end
theorem skipBlanks_calls (b : Nat) (T : TypeId) (x : List Value) (s : ByteArray) (k a : Int) (t : ByteArray) (r : Nat) (w : World) (h : ScW w b T x s k a t (r : Nat)) (hs : s.size <= 200000) (hr : r <= s.size) :
 Calls Tryz.prog 36 #[.pointer (some ⟨b, 0, none⟩)] w fun e w' => e = .returned (.tuple #[]) /\ ScW w' b T x s k a t (skip s r : Nat) /\ Touched w b w' := by
 have H0 := hide h; clear h
 go_enter Tryz.func36, Tryz.ntmps36
 go_wp2_with fail
 go_loopg [] (s.size - r) (fun g wr => ∃ p : Nat, p + g = s.size /\ Hid (skip s p = skip s r) /\ Hid (ScW wr b T x s k a t (p : Nat)) /\ Hid (Touched w b wr))
 case atStart => exact ⟨r, by omega, rfl, H0, Touched.refl _ _⟩
 case round =>
  clear H0; obtain ⟨p, hpg, HR, HS, HTo⟩ := hrel; have c0 := HS.out.c0; have c4 := HS.out.c4; have hlt := HS.out.lt; have cf := HS.out.f 4
  by_cases hp : p < s.size
  . have e1 : decide ((p : Int) < (s.size : Int)) = true := by simp; omega
    have hz := suf_size (s := s) (p := p); have hb0 : 0 < (s.extract p s.size).size := by omega
    have ha0 : (((s.extract p s.size)[0]'hb0).toNat) = at_ s p := by rw [at_eq hb0, suf_at (by omega), Nat.add_zero]
    have KB := hide (fun W => isBlank_calls (at_ s p) W); rw [<- ha0] at KB; have KP := hide (fun W => hasPrefix_calls (s.extract p s.size) ⟨#[45, 45]⟩ W)
    have KL := hide (fun W => lineLength_calls (s.extract p s.size) W); have hln := suf_run0 (f := lineB) (s := s) (p := p) (by omega)
    have hpre : prefB (s.extract p s.size) ⟨#[45, 45]⟩ = decide (p + 1 < s.size /\ at_ s p = 45 /\ at_ s (p + 1) = 45) := by
     rw [pref2 hb0, Bool.eq_iff_iff]
     simp only [Bool.and_eq_true, decide_eq_true_eq, beq_iff_eq, hz]
     constructor
     . rintro ⟨⟨h1, h2⟩, h3⟩
       rw [suf_at (by omega)] at h2 h3; exact ⟨by omega, h2, h3⟩
     . rintro ⟨h1, h2, h3⟩
       rw [suf_at (by omega), suf_at (by omega)]; exact ⟨⟨by omega, h2⟩, h3⟩
    rw [hpre] at KP; clear hpre
    by_cases hbl : blankB (at_ s p) = true
    . have HN : Hid (skip s (p + 1) = skip s r) := (skip_blank hp hbl).symm.trans HR.out
      rw [ha0, hbl, <- ha0] at KB; clear KP KL hln ha0 HR
      go_wp2_with fail
      go_quiet (fail)
      obtain ⟨n1, rfl⟩ : ∃ n1, n1 = nq := ⟨nq, rfl⟩
      go_wp2_with fail
      go_quiet (fail)
      have HS2 := hide (HS.out.drewN (n1 + nq)); have HT2 := hide (HTo.out.later (below_drewN (Below.refl _ _) (n1 + nq)))
      go_wp2_with (go_at_call 60; refine (KB.out _).mono ?_; rintro e w' ⟨rfl, rfl⟩)
      go_roundg (s.size - (p + 1))
      case measure => omega
      case rel => exact ⟨p + 1, by omega, HN, by have := HS2.out.set4 ((p : Int) + 1); simpa [Hid] using this, HT2.out.set 4 _⟩
    . rw [ha0, show blankB (at_ s p) = false from by simpa using hbl, <- ha0] at KB
      by_cases hda : p + 1 < s.size /\ at_ s p = 45 /\ at_ s (p + 1) = 45
      . have HN : Hid (skip s (runTo lineB s p) = skip s r) := (skip_line hda.1 hda.2.1 hda.2.2).symm.trans HR.out
        have h2 := runTo_line hp hda.2.1; have h3 := runTo_le lineB s (k := p) (by omega); rw [show decide (p + 1 < s.size /\ at_ s p = 45 /\ at_ s (p + 1) = 45) = true from by simp [hda]] at KP
        generalize runTo lineB (s.extract p s.size) 0 = ln at *; have HW : Hid (IntKind.i64.wrap ((p : Int) + (ln : Int)) = (p : Int) + ln) := hide (by rw [IntKind.wrap_i64]; omega); clear hbl hda ha0 HR
        go_wp2_with fail
        go_quiet (fail)
        obtain ⟨n1, rfl⟩ : ∃ n1, n1 = nq := ⟨nq, rfl⟩
        go_wp2_with fail
        go_quiet (fail)
        have HS2 := hide (HS.out.drewN (n1 + nq)); have HT2 := hide (HTo.out.later (below_drewN (Below.refl _ _) (n1 + nq)))
        go_wp2_with (first | (go_at_call 60; refine (KB.out _).mono ?_; rintro e w' ⟨rfl, rfl⟩) | (go_at_call 61; refine (KP.out _).mono ?_; rintro e w' ⟨rfl, rfl⟩))
        go_region_law (first
         | (refine step_pure (f := 62) (v := .int .i64 (ln : Nat)) rfl ?_ (KL.out _) ?_
            . simp [go_sem]))
        all_goals
         rw [HW.out]
         go_wp2_with fail
         go_roundg (s.size - (p + ln))
         case measure => omega
         case rel => exact ⟨p + ln, by omega, by rw [<- hln]; exact HN, by have := (HS.out.drewN (n1 + nq + 1)).set4 ((p : Int) + ln); simpa [Hid] using this, (HTo.out.later (below_drewN (Below.refl _ _) (n1 + nq + 1))).set 4 _⟩
      . have HN : Hid (p = skip s r) := (skip_stop (by simpa using hbl) hda).symm.trans HR.out
        rw [show decide (p + 1 < s.size /\ at_ s p = 45 /\ at_ s (p + 1) = 45) = false from by simp [hda]] at KP; clear hbl hda ha0 HR KL hln
        go_wp2_with fail
        go_quiet (fail)
        obtain ⟨n1, rfl⟩ : ∃ n1, n1 = nq := ⟨nq, rfl⟩
        go_wp2_with fail
        go_quiet (fail)
        have HS2 := hide (HS.out.drewN (n1 + nq)); have HT2 := hide (HTo.out.later (below_drewN (Below.refl _ _) (n1 + nq)))
        go_wp2_with (first | (go_at_call 60; refine (KB.out _).mono ?_; rintro e w' ⟨rfl, rfl⟩) | (go_at_call 61; refine (KP.out _).mono ?_; rintro e w' ⟨rfl, rfl⟩))
        refine bodyPost_ret (results_none rfl _ _ _) rfl ?_; exact ⟨rfl, by rw [<- HN.out]; exact HS2.out, HT2.out⟩
  . have e1 : decide ((p : Int) < (s.size : Int)) = false := by simp; omega
    have HN : Hid (p = skip s r) := (skip_end (by omega)).symm.trans HR.out
    go_wp2_with fail
    go_quiet (fail)
    have HS1 := hide (HS.out.drewN nq); have HT1 := hide (HTo.out.later (below_drewN (Below.refl _ _) nq))
    go_wp2_with fail
    go_end0; exact ⟨rfl, by rw [<- HN.out]; exact HS1.out, HT1.out⟩
abbrev sgv : List Value := [.string ⟨#[58, 61]⟩, .string ⟨#[61, 62]⟩, .string ⟨#[45, 62]⟩, .string ⟨#[46, 123]⟩, .string ⟨#[40]⟩, .string ⟨#[41]⟩, .string ⟨#[123]⟩, .string ⟨#[125]⟩, .string ⟨#[64]⟩, .string ⟨#[95]⟩, .string ⟨#[58]⟩, .string ⟨#[61]⟩, .string ⟨#[44]⟩, .string ⟨#[46]⟩, .string ⟨#[59]⟩, .string ⟨#[124]⟩, .string ⟨#[43]⟩]
def SgT (w : World) : Prop := w.rangeAt 1 0 sgv
theorem SgT.lt {w : World} (h : SgT w) : 1 < w.heap.size := World.block_lt_of_cell? _ _ (h 0 _ rfl)
theorem SgT.of_block {w w' : World} (h : SgT w) (hb : w'.heap[1]? = w.heap[1]?) : SgT w' := fun j v e => (World.cell?_of_block (w := w) hb).trans (h j v e)
theorem Tryz.info124 : (Tryz.prog.info? 124).map (·.size) = some 17 := by kernel_rfl
theorem sgx0 (w : World) : (Instr.index 124 (.agg sgv.toArray) (.int .i64 0)).run Tryz.prog w = .ok (.string (sgn 0)) w := by kernel_rfl
theorem sgx1 (w : World) : (Instr.index 124 (.agg sgv.toArray) (.int .i64 1)).run Tryz.prog w = .ok (.string (sgn 1)) w := by kernel_rfl
theorem sgx2 (w : World) : (Instr.index 124 (.agg sgv.toArray) (.int .i64 2)).run Tryz.prog w = .ok (.string (sgn 2)) w := by kernel_rfl
theorem sgx3 (w : World) : (Instr.index 124 (.agg sgv.toArray) (.int .i64 3)).run Tryz.prog w = .ok (.string (sgn 3)) w := by kernel_rfl
theorem sgx4 (w : World) : (Instr.index 124 (.agg sgv.toArray) (.int .i64 4)).run Tryz.prog w = .ok (.string (sgn 4)) w := by kernel_rfl
theorem sgx5 (w : World) : (Instr.index 124 (.agg sgv.toArray) (.int .i64 5)).run Tryz.prog w = .ok (.string (sgn 5)) w := by kernel_rfl
theorem sgx6 (w : World) : (Instr.index 124 (.agg sgv.toArray) (.int .i64 6)).run Tryz.prog w = .ok (.string (sgn 6)) w := by kernel_rfl
theorem sgx7 (w : World) : (Instr.index 124 (.agg sgv.toArray) (.int .i64 7)).run Tryz.prog w = .ok (.string (sgn 7)) w := by kernel_rfl
theorem sgx8 (w : World) : (Instr.index 124 (.agg sgv.toArray) (.int .i64 8)).run Tryz.prog w = .ok (.string (sgn 8)) w := by kernel_rfl
theorem sgx9 (w : World) : (Instr.index 124 (.agg sgv.toArray) (.int .i64 9)).run Tryz.prog w = .ok (.string (sgn 9)) w := by kernel_rfl
theorem sgx10 (w : World) : (Instr.index 124 (.agg sgv.toArray) (.int .i64 10)).run Tryz.prog w = .ok (.string (sgn 10)) w := by kernel_rfl
theorem sgx11 (w : World) : (Instr.index 124 (.agg sgv.toArray) (.int .i64 11)).run Tryz.prog w = .ok (.string (sgn 11)) w := by kernel_rfl
theorem sgx12 (w : World) : (Instr.index 124 (.agg sgv.toArray) (.int .i64 12)).run Tryz.prog w = .ok (.string (sgn 12)) w := by kernel_rfl
theorem sgx13 (w : World) : (Instr.index 124 (.agg sgv.toArray) (.int .i64 13)).run Tryz.prog w = .ok (.string (sgn 13)) w := by kernel_rfl
theorem sgx14 (w : World) : (Instr.index 124 (.agg sgv.toArray) (.int .i64 14)).run Tryz.prog w = .ok (.string (sgn 14)) w := by kernel_rfl
theorem sgx15 (w : World) : (Instr.index 124 (.agg sgv.toArray) (.int .i64 15)).run Tryz.prog w = .ok (.string (sgn 15)) w := by kernel_rfl
theorem sgx16 (w : World) : (Instr.index 124 (.agg sgv.toArray) (.int .i64 16)).run Tryz.prog w = .ok (.string (sgn 16)) w := by kernel_rfl
theorem sgx (k : Nat) (hk : k < 17) (w : World) : (Instr.index 124 (.agg sgv.toArray) (.int .i64 (k : Nat))).run Tryz.prog w = .ok (.string (sgn k)) w := by
 match k, hk with
 | 0, _ => exact sgx0 w
 | 1, _ => exact sgx1 w
 | 2, _ => exact sgx2 w
 | 3, _ => exact sgx3 w
 | 4, _ => exact sgx4 w
 | 5, _ => exact sgx5 w
 | 6, _ => exact sgx6 w
 | 7, _ => exact sgx7 w
 | 8, _ => exact sgx8 w
 | 9, _ => exact sgx9 w
 | 10, _ => exact sgx10 w
 | 11, _ => exact sgx11 w
 | 12, _ => exact sgx12 w
 | 13, _ => exact sgx13 w
 | 14, _ => exact sgx14 w
 | 15, _ => exact sgx15 w
 | 16, _ => exact sgx16 w
 | k + 17, hk => omega
def tokN (t : ByteArray) : Nat × Nat :=
 if alphaB (at_ t 0) = true then (nkind (t.extract 0 (lnameEnd t 0)), lnameEnd t 0)
 else if digitB (at_ t 0) = true then (2, runTo digitB t 0)
 else match signLen t with
  | some n => (3, n)
  | none => (4, 1)
theorem tokenOf_calls (t : ByteArray) (w : World) (h0 : 0 < t.size) (hs : t.size <= 200000) (hg : SgT w) :
 Calls Tryz.prog 37 #[.string t] w fun e w' => e = .returned (.tuple #[.int .i64 ((tokN t).1 : Nat), .int .i64 ((tokN t).2 : Nat)]) /\ w' = w := by
 have KA := hide (isLetter_calls (at_ t 0) w); have KD := hide (isDigit_calls (at_ t 0) w); rw [<- at_eq h0] at KA KD
 by_cases ha : alphaB (at_ t 0) = true
 . have HT : Hid (tokN t = (nkind (t.extract 0 (lnameEnd t 0)), lnameEnd t 0)) := if_pos ha
   rw [at_eq h0, ha, <- at_eq h0] at KA; have KN := hide (nameLength_calls t w hs); have KK := hide (nameKind_calls (t.extract 0 (lnameEnd t 0)) w); have hle := (lnameEnd_le (s := t) (p := 0) (Nat.zero_le _)).2
   rw [HT.out]; clear ha HT KD hg; generalize lnameEnd t 0 = n at *
   go_enter Tryz.func37, Tryz.ntmps37
   go_wp2_with (first | (go_at_call 63; refine KA.out.mono ?_; rintro e w' ⟨rfl, rfl⟩) | (go_at_call 64; refine KN.out.mono ?_; rintro e w' ⟨rfl, rfl⟩) | (go_at_call 65; refine KK.out.mono ?_; rintro e w' ⟨rfl, rfl⟩))
   go_ret2
   exact ⟨rfl, rfl⟩
 . rw [at_eq h0, show alphaB (at_ t 0) = false from by simpa using ha, <- at_eq h0] at KA
   by_cases hd : digitB (at_ t 0) = true
   . have HT : Hid (tokN t = (2, runTo digitB t 0)) := by unfold tokN; rw [if_neg ha, if_pos hd]; exact rfl
     rw [at_eq h0, hd, <- at_eq h0] at KD; have KR := hide (runLength_calls 66 digitB digit_tests t w hs); rw [HT.out]; clear ha hd HT hg
     go_enter Tryz.func37, Tryz.ntmps37
     go_wp2_with (first | (go_at_call 63; refine KA.out.mono ?_; rintro e w' ⟨rfl, rfl⟩) | (go_at_call 66; refine KD.out.mono ?_; rintro e w' ⟨rfl, rfl⟩) | (go_at_call 67; refine KR.out.mono ?_; rintro e w' ⟨rfl, rfl⟩))
     go_ret2
     exact ⟨rfl, rfl⟩
   . have HT : Hid (tokN t = match signLen t with | some n => (3, n) | none => (4, 1)) := by unfold tokN; rw [if_neg ha, if_neg hd]; exact rfl
     rw [at_eq h0, show digitB (at_ t 0) = false from by simpa using hd, <- at_eq h0] at KD; have HG := hide hg; clear ha hd hg
     go_enter Tryz.func37, Tryz.ntmps37
     go_wp2_with (first | (go_at_call 63; refine KA.out.mono ?_; rintro e w' ⟨rfl, rfl⟩) | (go_at_call 66; refine KD.out.mono ?_; rintro e w' ⟨rfl, rfl⟩) | (refine wpList_load_mid rfl 124 _ rfl 1 0 rfl sgv _ HG.out Tryz.underlying124 rfl Tryz.info124 ?_))
     go_loopg [25] 17 (fun g v wr => ∃ k : Nat, k + g = 17 /\ v = .int .i64 (k : Nat) /\ Hid (∀ j, j < k -> prefB t (sgn j) = false) /\ wr = w')
     case atStart => exact ⟨0, by omega, rfl, fun j hj => by omega, rfl⟩
     case round =>
      obtain ⟨k, hkg, rfl, HN, rfl⟩ := hrel
      by_cases hk : k < 17
      . have e1 : decide ((k : Int) < 17) = true := by simp; omega
        have hix := sgx k hk; have KP := hide (hasPrefix_calls t (sgn k) wr)
        by_cases hp : prefB t (sgn k) = true
        . have HS := hide (sign_some h0 hk hp HN.out)
          rw [hp] at KP; clear hp
          go_wp2_with (go_at_call 61; refine KP.out.mono ?_; rintro e w' ⟨rfl, rfl⟩)
          go_ret2
          have e : tokN t = (3, (sgn k).size) := by rw [HT.out, HS.out]
          rw [e]; exact ⟨rfl, rfl⟩
        . have hp' : prefB t (sgn k) = false := by simpa using hp
          have HM : Hid (∀ j, j < k + 1 -> prefB t (sgn j) = false) := fun j hj => by
           by_cases hjk : j < k
           . exact HN.out j hjk
           . have : j = k := by omega
             rw [this]; exact hp'
          rw [hp'] at KP; clear hp hp'
          go_wp2_with (go_at_call 61; refine KP.out.mono ?_; rintro e w' ⟨rfl, rfl⟩)
          go_roundg (17 - (k + 1))
          case measure => omega
          case rel => exact ⟨k + 1, by omega, by go_num, HM.out, rfl⟩
      . have hk' : k = 17 := by omega
        subst hk'; have HS := hide (sign_none h0 HN.out)
        go_wp2_with fail
        go_ret2
        have e : tokN t = (4, 1) := by rw [HT.out, HS.out]
        rw [e]; exact ⟨rfl, rfl⟩
def NotNum (t : ByteArray) : Prop := t.size = 0 \/ (digitB (at_ t 0) = false /\ (t.size = 1 \/ digitB (at_ t 1) = false \/ (at_ t 0 ≠ 43 /\ at_ t 0 ≠ 45)))
def Odd (t : ByteArray) : Prop := t ≠ sAt /\ t ≠ sHole /\ t ≠ wProp /\ t ≠ wType /\ t ≠ wSort /\ t ≠ sOpen /\ ∀ q ∈ tacWords, t ≠ q
structure PT (tk : LTok) (e : Nat) (k : Nat) (t : ByteArray) (r : Nat) : Prop where
 good : tk.kd <= 3 -> k = tk.kd /\ t = tk.t /\ r = e
 bad : tk.kd = 4 -> (k = 4 \/ k = 2) /\ Odd t
 num : k = 2 -> Digs t /\ 0 < t.size /\ ((tk.kd = 2 /\ t.size <= 2 /\ ¬ (t.size = 2 /\ at_ t 0 = 48)) \/ (tk.kd = 4 /\ (2 < t.size \/ (t.size = 2 /\ at_ t 0 = 48))))
 not : k ≠ 2 -> NotNum t
theorem suf_part {s : ByteArray} {p n : Nat} (h : p + n <= s.size) : (s.extract p s.size).extract 0 n = s.extract p (p + n) := by
 rw [ByteArray.extract_extract]
 congr 1
 omega
theorem tac_size {q : ByteArray} (h : q ∈ tacWords) : 4 <= q.size /\ q.size <= 11 /\ alphaB (at_ q 0) = true := by
 have : ∀ q ∈ tacWords, (decide (4 <= q.size) && decide (q.size <= 11) && alphaB (at_ q 0)) = true := by decide +kernel
 have := this q h
 simpa [and_assoc] using this
theorem odd_long {t : ByteArray} (h : 40 < t.size) : Odd t := by
 refine ⟨?_, ?_, ?_, ?_, ?_, ?_, fun q hq e => ?_⟩
 any_goals (rintro rfl; revert h; decide)
 have := tac_size hq; rw [<- e] at this; omega
theorem odd_byte {t : ByteArray} (h : t.size = 1) (h1 : oneB (at_ t 0) = false) : Odd t := by
 refine ⟨?_, ?_, ?_, ?_, ?_, ?_, fun q hq e => ?_⟩
 any_goals (rintro rfl; revert h h1; decide)
 have := tac_size hq; rw [<- e] at this; omega
theorem odd_digit {t : ByteArray} (h : digitB (at_ t 0) = true) : Odd t := by
 refine ⟨?_, ?_, ?_, ?_, ?_, ?_, fun q hq e => ?_⟩
 any_goals (rintro rfl; revert h; decide)
 have := (tac_size hq).2.2; rw [<- e] at this
 simp [alphaB, digitB] at this h
 omega
theorem notNum_alpha {t : ByteArray} (h : alphaB (at_ t 0) = true) : NotNum t := by
 refine .inr ⟨?_, .inr (.inr ?_)⟩
 . simp [alphaB, digitB] at h ⊢; omega
 . simp [alphaB] at h; omega
theorem digs_of {s : ByteArray} {p : Nat} (h : p <= s.size) : Digs (s.extract p (runTo digitB s p)) := run_digs h rfl
theorem adv_tok {s : ByteArray} {p : Nat} (h : p < s.size) :
 p + (tokN (s.extract p s.size)).2 <= s.size /\ PT (lexAt s p).1 (lexAt s p).2 (tokN (s.extract p s.size)).1 (s.extract p (p + (tokN (s.extract p s.size)).2)) (p + (tokN (s.extract p s.size)).2) := by
 have hz := suf_size (s := s) (p := p); have ha0 : at_ (s.extract p s.size) 0 = at_ s p := by rw [suf_at (by omega), Nat.add_zero]
 have hn := suf_name (s := s) (p := p) (by omega); have hnl := lnameEnd_le (s := s) (p := p) (by omega); have hd := suf_run0 (f := digitB) (s := s) (p := p) (by omega); have hdl := runTo_le digitB s (k := p) (by omega)
 have hlp : ∀ n, p + n <= s.size -> 0 < n -> at_ (s.extract p (p + n)) 0 = at_ s p := fun n h1 h2 => by rw [at_extract h1 (by omega), Nat.add_zero]
 have hsz : ∀ n, p + n <= s.size -> (s.extract p (p + n)).size = n := fun n h1 => by rw [ByteArray.size_extract]; omega
 unfold tokN lexAt; rw [ha0]
 by_cases ha : alphaB (at_ s p) = true
 . rw [if_pos ha, if_pos ha]
   have h4 : p < lnameEnd s p := by
    have h5 := runTo_more (f := partB) h (by simp [partB, ha]); have h6 := (dots_le (s := s) (q := runTo partB s p) (runTo_le partB s (by omega))).1; unfold lnameEnd; omega
   generalize lnameEnd (s.extract p s.size) 0 = n at *
   simp only
   rw [hn] at h4 hnl ⊢; rw [suf_part (by omega), show p + n - p = n by omega]; refine ⟨by omega, ?_⟩; have hz' := hsz n (by omega)
   have hal : alphaB (at_ (s.extract p (p + n)) 0) = true := by rw [hlp n (by omega) (by omega)]; exact ha
   unfold nkind
   by_cases hw : isWord (s.extract p (p + n)) = true
   . have h40 : ¬ 40 < n := fun h40 => by
      have : ∀ q ∈ lwords, q.size <= 40 := by decide +kernel
      simp only [isWord, List.any_eq_true, decide_eq_true_eq] at hw
      obtain ⟨q, hq, e⟩ := hw; have := this q hq; rw [<- e, hz'] at this; omega
     rw [if_neg h40, if_pos hw, if_pos hw]; exact ⟨fun _ => ⟨rfl, rfl, rfl⟩, fun h => absurd h (by simp), fun h => absurd h (by simp), fun _ => notNum_alpha hal⟩
   . rw [if_neg hw, if_neg hw, hz']
     by_cases h40 : 40 < n
     . rw [if_pos h40, if_pos h40]
       exact ⟨fun h => absurd h (by simp), fun _ => ⟨.inl rfl, odd_long (by omega)⟩, fun h => absurd h (by simp), fun _ => notNum_alpha hal⟩
     . rw [if_neg h40, if_neg h40]
       exact ⟨fun _ => ⟨rfl, rfl, rfl⟩, fun h => absurd h (by simp), fun h => absurd h (by simp), fun _ => notNum_alpha hal⟩
 . rw [if_neg ha, if_neg ha]
   by_cases hdg : digitB (at_ s p) = true
   . rw [if_pos hdg, if_pos hdg]
     have h4 := runTo_more (f := digitB) h hdg; have hD := digs_of (s := s) (p := p) (by omega); generalize runTo digitB (s.extract p s.size) 0 = n at *
     simp only
     rw [hd] at h4 hdl hD ⊢; rw [show p + n - p = n by omega]; refine ⟨by omega, ?_⟩; have hz' := hsz n (by omega); have h00 := hlp n (by omega) (by omega)
     have hod : Odd (s.extract p (p + n)) := odd_digit (by rw [h00]; exact hdg)
     by_cases hb : 2 < n \/ (n = 2 /\ at_ s p = 48)
     . rw [if_pos hb]
       exact ⟨fun h => absurd h (by simp), fun _ => ⟨.inr rfl, hod⟩, fun _ => ⟨hD, by omega, .inr ⟨rfl, by rw [hz', h00]; exact hb⟩⟩, fun h => absurd rfl h⟩
     . rw [if_neg hb]
       exact ⟨fun _ => ⟨rfl, rfl, rfl⟩, fun h => absurd h (by simp), fun _ => ⟨hD, by omega, .inl ⟨rfl, by omega, by rw [hz', h00]; omega⟩⟩, fun h => absurd rfl h⟩
   . rw [if_neg hdg, if_neg hdg]
     unfold signLen; rw [hz, ha0]; have hd' : digitB (at_ s p) = false := by simpa using hdg
     by_cases h2 : p + 1 < s.size /\ twoB (at_ s p) (at_ s (p + 1)) = true
     . have h2' : 1 < s.size - p /\ twoB (at_ s p) (at_ (s.extract p s.size) 1) = true := ⟨by omega, by rw [suf_at (by omega)]; exact h2.2⟩
       rw [if_pos h2, if_pos h2']; refine ⟨by show p + 2 <= s.size; omega, ?_⟩
       have hn2 : NotNum (s.extract p (p + 2)) := by
        refine .inr ⟨by rw [hlp 2 (by omega) (by omega)]; exact hd', .inr (.inl ?_)⟩; rw [at_extract (by omega) (by omega)]; have := h2.2
        simp [twoB] at this
        simp [digitB]
        omega
       exact ⟨fun _ => ⟨rfl, rfl, rfl⟩, fun h => absurd h (by simp), fun h => absurd h (by simp), fun _ => hn2⟩
     . have h2' : ¬ (1 < s.size - p /\ twoB (at_ s p) (at_ (s.extract p s.size) 1) = true) := fun ⟨x1, x2⟩ => h2 ⟨by omega, by rw [suf_at (by omega)] at x2; exact x2⟩
       rw [if_neg h2, if_neg h2']; have hn1 : NotNum (s.extract p (p + 1)) := .inr ⟨by rw [hlp 1 (by omega) (by omega)]; exact hd', .inl (hsz 1 (by omega))⟩
       by_cases h1 : oneB (at_ s p) = true
       . rw [if_pos h1, if_pos h1]
         refine ⟨by show p + 1 <= s.size; omega, ?_⟩; exact ⟨fun _ => ⟨rfl, rfl, rfl⟩, fun h => absurd h (by simp), fun h => absurd h (by simp), fun _ => hn1⟩
       . rw [if_neg h1, if_neg h1]
         refine ⟨by show p + 1 <= s.size; omega, ?_⟩
         exact ⟨fun h => absurd h (by simp), fun _ => ⟨.inl rfl, odd_byte (hsz 1 (by omega)) (by rw [hlp 1 (by omega) (by omega)]; simpa using h1)⟩, fun h => absurd h (by simp), fun _ => hn1⟩
theorem end_tok (n : Nat) : PT ⟨0, ⟨#[]⟩, n⟩ n 0 ⟨#[]⟩ n := ⟨fun _ => ⟨rfl, rfl, rfl⟩, fun h => absurd h (by simp), fun h => absurd h (by simp), fun _ => .inl rfl⟩
theorem lexAt_at (s : ByteArray) (p : Nat) : (lexAt s p).1.at_ = p := by unfold lexAt; repeat' (first | rfl | split)
theorem SgT.touched {w w' : World} {b : Nat} (h : SgT w) (ht : Touched w b w') (hb : b ≠ 1) : SgT w' := h.of_block (ht.at h.lt (fun e => hb e.symm))
theorem SgT.later {w w' : World} (h : SgT w) (ht : Below w.heap.size w w') : SgT w' := h.of_block (ht.block 1 h.lt)
def ScT (w : World) (b : Nat) (T : TypeId) (x : List Value) (s : ByteArray) (tk : LTok) (e : Nat) : Prop := ∃ (k : Nat) (t : ByteArray) (r : Nat), ScW w b T x s (k : Nat) (tk.at_ : Nat) t (r : Nat) /\ PT tk e k t r /\ t.size <= s.size
theorem advance_calls (b : Nat) (T : TypeId) (x : List Value) (s : ByteArray) (k a : Int) (t : ByteArray) (r : Nat) (w : World) (h : ScW w b T x s k a t (r : Nat)) (hs : s.size <= 200000) (hr : r <= s.size) (hg : SgT w) (hb : b ≠ 1) :
 Calls Tryz.prog 24 #[.pointer (some ⟨b, 0, none⟩)] w fun e w' => e = .returned (.tuple #[]) /\ ScT w' b T x s (lex s r).1 (lex s r).2 /\ Touched w b w' := by
 have KS := hide (skipBlanks_calls b T x s k a t r w h hs hr); have hsl := skip_le hr; have HG := hide hg; have HL : Hid (lex s r = if skip s r = s.size then (⟨0, ⟨#[]⟩, s.size⟩, s.size) else lexAt s (skip s r)) := rfl
 clear h hg; generalize lex s r = lx at *; generalize skip s r = p at *
 go_enter Tryz.func24, Tryz.ntmps24
 go_wp2_with (go_at_call 36; refine KS.out.mono ?_)
 rintro e w1 ⟨rfl, h1, hT1⟩; have c0 := h1.c0; have c4 := h1.c4; have f1 := h1.f 1; have f2 := h1.f 2; have f3 := h1.f 3; have f4 := h1.f 4; have hlt := h1.lt; have H1 := hide h1; have HT1 := hide hT1
 have HG1 := hide (HG.out.touched hT1 hb); clear h1 hT1 KS
 by_cases hp : p = s.size
 . subst hp
   have HE : Hid (lx = (⟨0, ⟨#[]⟩, s.size⟩, s.size)) := hide (by rw [HL.out, if_pos rfl]); have d1 := H1.out.c1; have d2 := H1.out.c2; have d3 := H1.out.c3
   go_wp2_with fail
   refine bodyPost_ret (results_none rfl _ _ _) rfl ?_; refine ⟨rfl, ?_, ((HT1.out.set 1 _).set 2 _).set 3 _⟩; rw [HE.out]
   exact ⟨0, ⟨#[]⟩, s.size, ((H1.out.set1 0).set2 (s.size : Nat)).set3 ⟨#[]⟩, end_tok _, Nat.zero_le _⟩
 . have HE : Hid (lx = lexAt s p) := hide (by rw [HL.out, if_neg hp])
   have e1 : ((p : Int) == (s.size : Int)) = false := by simp; omega
   have KT := hide (tokenOf_calls (s.extract p s.size) w1 (by rw [suf_size]; omega) (by rw [suf_size]; omega) HG1.out); obtain ⟨hle, hpt⟩ := adv_tok (s := s) (p := p) (by omega); have HPT := hide hpt; clear hpt hp
   generalize (tokN (s.extract p s.size)).2 = n at *; generalize (tokN (s.extract p s.size)).1 = kd at *
   have HW : Hid (IntKind.i64.wrap ((p : Int) + (n : Int)) = (p : Int) + n) := hide (by rw [IntKind.wrap_i64]; omega)
   go_wp2_with (go_at_call 37; refine KT.out.mono ?_; rintro e w' ⟨rfl, rfl⟩)
   have h2 := H1.out.set4 ((p : Int) + n); have hT2 := HT1.out.set 4 (.int .i64 ((p : Int) + n)); generalize w'.setCell ⟨b, 4, none⟩ (.int .i64 ((p : Int) + n)) = w2 at *; have c0 := h2.c0; have c4 := h2.c4
   have f1 := h2.f 1; have f2 := h2.f 2; have f3 := h2.f 3; have hlt := h2.lt; have d1 := h2.c1; have d2 := h2.c2; have d3 := h2.c3; have H2 := hide h2; have HT2 := hide hT2
   have hge : (p : Int) <= (p : Int) + (n : Int) := by omega
   have hle' : (p : Int) + (n : Int) <= (s.size : Int) := by omega
   clear h2 hT2 H1 HT1 KT
   go_region_held3 (fun w' => w'.cell? ⟨b, 0, none⟩ = some (.string s) /\ w'.cell? ⟨b, 4, none⟩ = some (.int .i64 ((p : Int) + n))) (simp [*, World.cell?_setCell_other]) (fail)
   go_end0; have hq : ((p : Int) + (n : Int)).toNat = p + n := by omega
   rw [hq]; have hB : ∀ W : World, Below W.heap.size W W.drew := fun W => (Below.refl _ _).drew
   refine ⟨rfl, ?_, (((HT2.out.set 1 _).set 2 _).set 3 _).later (hB _)⟩; rw [HE.out]; refine ⟨kd, _, p + n, ?_, HPT.out, by rw [ByteArray.size_extract]; omega⟩; rw [lexAt_at]
   have := ((((H2.out.set1 (kd : Nat)).set2 (p : Nat)).set3 (s.extract p (p + n)))).later (hB _)
   simpa using this
def RdS (w : World) (rb : Nat) (mv : Value) (s : ByteArray) (st : FS) : Prop := st.code = 0 /\ ∃ c : Int, ScT w rb 53 [mv, .int .i64 c] s st.t st.e
theorem RdS.code {w : World} {rb : Nat} {mv : Value} {s : ByteArray} {st : FS} (h : RdS w rb mv s st) : st.code = 0 := h.1
theorem RdS.lt {w : World} {rb : Nat} {mv : Value} {s : ByteArray} {st : FS} (h : RdS w rb mv s st) : rb < w.heap.size := by obtain ⟨_, c, k, t, r, h, _⟩ := h; exact h.lt
theorem RdS.of_block {w w' : World} {rb : Nat} {mv : Value} {s : ByteArray} {st : FS} (h : RdS w rb mv s st) (he : w'.heap[rb]? = w.heap[rb]?) : RdS w' rb mv s st := by
 obtain ⟨h0, c, k, t, r, h, hp⟩ := h; exact ⟨h0, c, k, t, r, h.of_block he, hp⟩
theorem RdS.later {w w' : World} {rb : Nat} {mv : Value} {s : ByteArray} {st : FS} (h : RdS w rb mv s st) (hb : Below w.heap.size w w') : RdS w' rb mv s st := h.of_block (hb.block _ h.lt)
theorem RdS.alloc {w : World} {rb : Nat} {mv : Value} {s : ByteArray} {st : FS} (h : RdS w rb mv s st) (o : Obj) : RdS (w.alloc o) rb mv s st := h.of_block (Below.heap_alloc _ _ _ h.lt)
def Threw (w : World) (rb code a : Nat) (e : Ending) (w' : World) : Prop :=
 ∃ fb : Nat, e = .panicked [{ v := .iface 41 (.pointer (some ⟨fb, 0, none⟩)), recovered := false }] /\ w.heap.size <= fb /\ w'.heap[fb]? = some (.cells #[.int .i64 (code : Nat), .int .i64 (a : Nat)] 77 (0, 0)) /\ Touched w rb w'
theorem Threw.from {w w0 w' : World} {rb code a : Nat} {e : Ending} (h : Threw w rb code a e w') (ht : Touched w0 rb w) : Threw w0 rb code a e w' := by
 obtain ⟨fb, he, h1, h2, h3⟩ := h; exact ⟨fb, he, Nat.le_trans ht.size h1, h2, ht.trans h3⟩
def RP (w : World) (rb : Nat) (mv : Value) (s : ByteArray) (st' : FS) (G : Ending -> World -> Prop) (e : Ending) (w' : World) : Prop :=
 (st'.code = 0 /\ G e w' /\ RdS w' rb mv s st' /\ Touched w rb w') \/ (st'.code ≠ 0 /\ Threw w rb 1 st'.fat e w')
theorem throwAt_calls (code a rb : Nat) (w : World) : Calls Tryz.prog 15 #[.int .i64 (code : Nat), .int .i64 (a : Nat)] w fun e w' => Threw w rb code a e w' := by
 go_enter Tryz.func15, Tryz.ntmps15
 go_wp2_with fail
 exact ⟨rfl, w.heap.size, rfl, Nat.le_refl _, heap_alloc_new _ _, Touched.alloc _ _ _⟩
theorem throw_calls (code rb : Nat) (w : World) : Calls Tryz.prog 8 #[.int .i64 (code : Nat)] w fun e w' => Threw w rb code 0 e w' := by
 have K := hide (throwAt_calls code 0 rb w)
 go_enter Tryz.func8, Tryz.ntmps8
 go_wp2_with (go_at_call 15; refine K.out.mono ?_)
 intro e w1 h1; obtain ⟨fb, rfl, h2⟩ := h1; have H2 := hide h2; clear h2
 go_wp2_with fail
 exact ⟨rfl, fb, rfl, H2.out⟩
section
variable (rb : Nat) (mv : Value) (s : ByteArray) (st : FS) (w : World) (h : RdS w rb mv s st) (hs : s.size <= 200000) (ho : st.Ok s) (hg : SgT w) (hb : rb ≠ 1)
include h
theorem refuse_calls : Calls Tryz.prog 39 #[.pointer (some ⟨rb, 0, none⟩)] w fun e w' => Threw w rb 1 st.t.at_ e w' := by
 obtain ⟨h0, c, k, t, r, h, hp⟩ := h; have c2 := h.c2; have K := hide (throwAt_calls 1 st.t.at_ rb w); clear h hp
 go_enter Tryz.func39, Tryz.ntmps39
 go_wp2_with (go_at_call 15; refine K.out.mono ?_)
 intro e w1 h1; obtain ⟨fb, rfl, h2⟩ := h1; have H2 := hide h2; clear h2
 go_wp2_with fail
 exact ⟨rfl, fb, rfl, H2.out⟩
include hs ho hg hb
theorem adv_calls (h1 : st.t.kd <= 3) : Calls Tryz.prog 24 #[.pointer (some ⟨rb, 0, none⟩)] w fun e w' => e = .returned (.tuple #[]) /\ RdS w' rb mv s (st.step s) /\ Touched w rb w' := by
 obtain ⟨h0, c, k, t, r, h, hp, hz⟩ := h; obtain ⟨_, _, hr⟩ := hp.good h1; subst hr; refine (advance_calls rb 53 _ s _ _ t st.e w h hs ho.le hg hb).mono ?_; rintro e w' ⟨rfl, h2, h3⟩; refine ⟨rfl, ?_, h3⟩; unfold FS.step
 rw [if_pos h0]; exact ⟨h0, c, h2⟩
end
end Go.Proofs.YtockffblncdikaaGreatDoor
