/- The document's tactic: its words, its variable, its result. No walk. -/
import Derived.Test.YtekfledccpeblaaGreatDoorEf
import Derived.Deep.DeepCutAuto

namespace Go.Proofs.YtekfledccpeblaaGreatDoor
open Go.RowKit

/-- The document's list of tactics' words: the empty one, then the words. -/
def tacList : List ByteArray := ⟨#[]⟩ :: tacWords
theorem tacList_len : tacList.length = 14 := rfl
/-- The last of the first words of a list that is that one; 0: none is. -/
def lastOf (L : List ByteArray) (t : ByteArray) : Nat → Nat
  | 0 => 0
  | i + 1 => if L.getD (i + 1) ⟨#[]⟩ = t then i + 1 else lastOf L t i
theorem lastOf_none {L : List ByteArray} {t : ByteArray} : ∀ n, (∀ i, i < n → L.getD (i + 1) ⟨#[]⟩ ≠ t) → lastOf L t n = 0
  | 0, _ => rfl
  | n + 1, h => by
    simp only [lastOf]
    rw [if_neg (h n (by omega))]
    exact lastOf_none n fun i hi => h i (by omega)
theorem lastOf_tac (t : ByteArray) : lastOf tacList t 13 = wordNo t tacWords 1 := by
  by_cases h : t ∈ tacWords
  · have : ∀ q ∈ tacWords, lastOf tacList q 13 = wordNo q tacWords 1 := by decide +kernel
    exact this t h
  · rw [wordNo_none tacWords 1 fun q hq e => h (by rw [e]; exact hq)]
    refine lastOf_none 13 fun i hi e => h ?_
    have h2 : i < tacWords.length := by have : tacWords.length = 13 := rfl; omega
    have h3 : tacList.getD (i + 1) ⟨#[]⟩ = tacWords[i] := by
      unfold tacList
      rw [List.getD_cons_succ, List.getD_eq_getElem?_getD, List.getElem?_eq_getElem h2]
      rfl
    rw [← e, h3]
    exact List.getElem_mem h2

/-- A tactic's word: a name, and the last of the list that is it. -/
theorem tac_kin {st : FS} {k : Nat} (hk : k = tacNo st) (h0 : k ≠ 0) : (st.code = 0 ∧ st.t.kd = 1) ∧ Hid (lastOf tacList st.t.t 13 = k) := by
  have h1 : st.kin 1 = true := by
    unfold tacNo at hk
    by_cases hq : st.kin 1 = true
    · exact hq
    · rw [if_neg hq] at hk; exact absurd hk h0
  refine ⟨by unfold FS.kin at h1; simpa using h1, hide ?_⟩
  rw [lastOf_tac, hk]
  unfold tacNo
  rw [if_pos h1]
/-- The document's tactics' words lie there, in blocks that the reader is none of. -/
structure TWs (w : World) (fb tb tof tc : Nat) : Prop where
  s : w.cell? ⟨0, 0, none⟩ = some (.slice (some ⟨tb, tof, none⟩) 14 tc)
  c : ∀ i, i < 14 → w.cell? ⟨tb, tof + i, none⟩ = some (.string (tacList.getD i ⟨#[]⟩))
  n0 : fb ≠ 0
  n1 : fb ≠ tb
section
variable {w W W' : World} {fb tb tof tc : Nat} {s : ByteArray}
theorem TWs.touched (h : TWs w fb tb tof tc) (hT : Touched w fb W) : TWs W fb tb tof tc :=
  ⟨(hT.cell (p := ⟨0, 0, none⟩) (World.block_lt_of_cell? _ _ h.s) (Ne.symm h.n0)).trans h.s, fun i hi => (hT.cell (p := ⟨tb, tof + i, none⟩) (World.block_lt_of_cell? _ _ (h.c i hi)) (Ne.symm h.n1)).trans (h.c i hi), h.n0, h.n1⟩

/-- While a tactic is read: its variable, the result's. -/
structure TD (w : World) (fb : Nat) (s : ByteArray) (k a : Int) (ns : Value) (m : Int) (es : Value) (st : FS) (W : World) : Prop where
  res : W.heap[w.heap.size]? = some (.cells (tcs 0 0 nilV 0 nilV) 66 (0, 0))
  var : W.heap[w.heap.size + 1]? = some (.cells (tcs k a ns m es) 66 (0, 0))
  rd : DR W fb s st
  old : Touched w fb W
section
variable {k a m : Int} {ns es : Value} {st st' st0 : FS}
theorem TD.lt (h : TD w fb s k a ns m es st W) : w.heap.size + 1 < W.heap.size := (Array.getElem?_eq_some_iff.1 h.var).1
theorem TD.touched (h : TD w fb s k a ns m es st W) (hlt : fb < w.heap.size) (hR : DR W' fb s st') (hT : Touched W fb W') : TD w fb s k a ns m es st' W' :=
  ⟨(hT.at (by have := h.lt; omega) (by omega)).trans h.res, (hT.at h.lt (by omega)).trans h.var, hR, h.old.trans hT⟩
theorem TD.later (h : TD w fb s k a ns m es st W) (hlt : fb < w.heap.size) (hB : Below W.heap.size W W') : TD w fb s k a ns m es st W' := h.touched hlt (h.rd.later hB) (Touched.of_below hB)
theorem TD.set (hlt : fb < w.heap.size) (h : TD w fb s k a ns m es st W) (i : Nat) (v : Value) {k' a' : Int} {ns' es' : Value} {m' : Int} (hv : (tcs k a ns m es).setIfInBounds i v = tcs k' a' ns' m' es') : TD w fb s k' a' ns' m' es' st (W.setCell ⟨w.heap.size + 1, i, none⟩ v) := by
  have hT : Touched w fb (W.setCell ⟨w.heap.size + 1, i, none⟩ v) := h.old.setNew (a := ⟨w.heap.size + 1, i, none⟩) (by show w.heap.size ≤ w.heap.size + 1; omega) _
  refine ⟨(Below.heap_setCell _ _ _ _ (by show w.heap.size ≠ w.heap.size + 1; omega)).trans h.res, ?_, h.rd.of_block (Below.heap_setCell _ _ _ _ (by show fb ≠ w.heap.size + 1; omega)), hT⟩
  rw [heap_setCell_same W _ i _ _ v h.var, hv]
theorem TD.fail (h : TD w fb s k a ns m es st W) (hf : fb < w.heap.size) : Calls Tryz.prog 26 #[.pointer (some ⟨fb, 0, none⟩)] W fun e w' => e = .returned (.tuple #[]) ∧ TD w fb s k a ns m es st.fail w' :=
  (dfail_calls h.rd).mono fun _ _ ⟨he, hd, hT⟩ => ⟨he, h.touched hf hd hT⟩
theorem TD.step (h : TD w fb s k a ns m es st W) (hf : fb < w.heap.size) : Calls Tryz.prog 14 #[.pointer (some ⟨fb, 0, none⟩)] W fun e w' => e = .returned (.tuple #[]) ∧ TD w fb s k a ns m es (st.step s) w' :=
  (dstep_calls h.rd).mono fun _ _ ⟨he, hd, hT⟩ => ⟨he, h.touched hf hd hT⟩
theorem TD.must (h : TD w fb s k a ns m es st W) (hf : fb < w.heap.size) (q : ByteArray) : Calls Tryz.prog 29 #[.pointer (some ⟨fb, 0, none⟩), .string q] W fun e w' => e = .returned (.tuple #[]) ∧ TD w fb s k a ns m es (st.must s q) w' :=
  (dmust_calls h.rd q).mono fun _ _ ⟨he, hd, hT⟩ => ⟨he, h.touched hf hd hT⟩
/-- It begins. -/
theorem TD.start (h : DR w fb s st) (a : Nat) : TD w fb s 0 (a : Nat) nilV 0 nilV st ((w.alloc (.cells (tcs 0 0 nilV 0 nilV) 66)).alloc (.cells (tcs 0 (a : Nat) nilV 0 nilV) 66)) := by
  have hB : Below w.heap.size w ((w.alloc (.cells (tcs 0 0 nilV 0 nilV) 66)).alloc (.cells (tcs 0 (a : Nat) nilV 0 nilV) 66)) := ((Below.refl _ _).alloc (Nat.le_refl _) _).alloc (by simp) _
  exact ⟨heap_alloc2_old _ _ _, heap_alloc2_new _ _ _, h.later hB, Touched.of_below hB⟩
end
/-- Expressions in a row. -/
def XqP (W : World) (S : Nat → Prop) (x : Ex) (v : Value) : Prop := ∃ xv, InX W S x xv ∧ v = .agg xv
theorem keep_XqP : Keep1 XqP := fun _ _ _ _ _ _ h ⟨xv, hx, e⟩ => ⟨xv, hx.keep h, e⟩
theorem GRow.xqs {W : World} {T n0 : Nat} {l : List Ex} {rv : Value} {ys : List Value} (h : GRow (KL XqP l) W T 9 0 n0 l.length rv ys) : ∃ A c, rv = .slice A l.length c ∧ XsIn W (fun b => n0 ≤ b) A l := by
  obtain ⟨A, c, e, hp⟩ := h.out (KL.keeps keep_XqP _)
  refine ⟨A, c, e, ?_⟩
  have hq : ∀ i, ∃ xv : Array Value, ∀ hi : i < l.length, (∃ b, A = some ⟨b, 0, none⟩ ∧ n0 ≤ b ∧ xv.size = 9 ∧ ∀ q, q < 9 → W.cell? ⟨b, i * 9 + q, none⟩ = xv[q]?) ∧ InX W (fun b => n0 ≤ b) l[i] xv := fun i => by
    by_cases hi : i < l.length
    · obtain ⟨g, a, ea, hg, hz, hc, hin⟩ := hp i hi
      obtain ⟨_, xv, hx, hv⟩ := hin
      have hv' : a = xv := by injection hv
      subst hv'
      exact ⟨a, fun _ => ⟨⟨g, ea, hg, hx.size, hc⟩, hx.mono fun b hb => by rcases hb with hb | hb; omega; exact hb⟩⟩
    · exact ⟨#[], fun h => absurd h hi⟩
  exact ⟨fun i => (hq i).choose, fun i hi => (hq i).choose_spec hi |>.1, fun i hi => (hq i).choose_spec hi |>.2⟩

section
variable {k a m : Int} {ns es : Value} {st st0 : FS} {V : World} {A : Option Addr} {c : Nat} {ys : List Value}
/-- A field that grew, and the tactic's variable as it stands then. -/
theorem Gw.td {α : Type} {P : World → (Nat → Prop) → α → Value → Prop} {T z i : Nat} {cs : Array Value} {l : List α} (h : Gw P T z V fb s st (w.heap.size + 1) 66 i cs l A c ys W) (hV : TD w fb s k a ns m es st0 V) (hlt : fb < w.heap.size) {k' a' m' : Int} {ns' es' : Value} (hc : cs = tcs k' a' ns' m' es') : TD w fb s k' a' ns' m' es' st W := by
  have hl := hV.lt
  have hz := h.size
  have hzo := hV.old.size
  refine ⟨(h.keep _ (by omega) (by omega) (by omega)).trans hV.res, by rw [← hc]; exact h.at_, h.rd, ⟨h.os.trans hV.old.os, h.tape.trans hV.old.tape, h.output.trans hV.old.output, Nat.le_trans hzo hz, fun b hb hne => (h.keep b (by omega) (fun e => hne (by rw [e])) (by omega)).trans (hV.old.block b hb hne)⟩⟩
theorem Gw.names {i : Nat} {cs : Array Value} {l : List ByteArray} {ty eb : Nat} (h : Gw StP 9 1 V fb s st eb ty i cs l A c ys W) : SsIn W (fun b => V.heap.size ≤ b) A l := by
  obtain ⟨A', c', e', hL⟩ := GRow.strs (l := l) h.row
  injection e' with e1 e2 e3
  subst e1
  exact hL
theorem Gw.exprs {i : Nat} {cs : Array Value} {l : List Ex} {ty eb : Nat} (h : Gw XqP 43 9 V fb s st eb ty i cs l A c ys W) : XsIn W (fun b => V.heap.size ≤ b) A l := by
  obtain ⟨A', c', e', hL⟩ := GRow.xqs (l := l) h.row
  injection e' with e1 e2 e3
  subst e1
  exact hL
/-- The tactic is answered. -/
theorem dtac_ret {st' : FS} {x : Tc} {A A' : Option Addr} {c c' : Nat} {tmps : Array Value} (hlt : fb < w.heap.size) (hS : TD w fb s (x.kd : Nat) (x.at_ : Nat) (.slice A x.nms.length c) (x.num : Nat) (.slice A' x.xs.length c') st' W) (hA : SsIn W (fun b => w.heap.size + 2 ≤ b) A x.nms) (hX : XsIn W (fun b => w.heap.size + 2 ≤ b) A' x.xs) (hp : tmps.getD 2 undef = .pointer (some ⟨w.heap.size, 0, none⟩)) :
    bodyPost Tryz.prog Tryz.f32 (fun e w' => DQ w fb s st' (TcR w x) e w') Exit.ret { tmps := tmps, defers := [] } (((((W.setCell ⟨w.heap.size, 0, none⟩ (.int .i64 (x.kd : Nat))).setCell ⟨w.heap.size, 1, none⟩ (.int .i64 (x.at_ : Nat))).setCell ⟨w.heap.size, 2, none⟩ (.slice A x.nms.length c)).setCell ⟨w.heap.size, 3, none⟩ (.int .i64 (x.num : Nat))).setCell ⟨w.heap.size, 4, none⟩ (.slice A' x.xs.length c')) := by
  have h5 := set5 hS.res (.int .i64 (x.kd : Nat)) (.int .i64 (x.at_ : Nat)) (.slice A x.nms.length c) (.int .i64 (x.num : Nat)) (.slice A' x.xs.length c')
  have hT : Touched w fb (((((W.setCell ⟨w.heap.size, 0, none⟩ (.int .i64 (x.kd : Nat))).setCell ⟨w.heap.size, 1, none⟩ (.int .i64 (x.at_ : Nat))).setCell ⟨w.heap.size, 2, none⟩ (.slice A x.nms.length c)).setCell ⟨w.heap.size, 3, none⟩ (.int .i64 (x.num : Nat))).setCell ⟨w.heap.size, 4, none⟩ (.slice A' x.xs.length c')) :=
    ((((hS.old.setNew (a := ⟨w.heap.size, 0, none⟩) (Nat.le_refl _) _).setNew (a := ⟨w.heap.size, 1, none⟩) (Nat.le_refl _) _).setNew (a := ⟨w.heap.size, 2, none⟩) (Nat.le_refl _) _).setNew (a := ⟨w.heap.size, 3, none⟩) (Nat.le_refl _) _).setNew (a := ⟨w.heap.size, 4, none⟩) (Nat.le_refl _) _
  have hne : ∀ b, b ≠ w.heap.size → (((((W.setCell ⟨w.heap.size, 0, none⟩ (.int .i64 (x.kd : Nat))).setCell ⟨w.heap.size, 1, none⟩ (.int .i64 (x.at_ : Nat))).setCell ⟨w.heap.size, 2, none⟩ (.slice A x.nms.length c)).setCell ⟨w.heap.size, 3, none⟩ (.int .i64 (x.num : Nat))).setCell ⟨w.heap.size, 4, none⟩ (.slice A' x.xs.length c')).heap[b]? = W.heap[b]? := fun b hb => by
    rw [Below.heap_setCell _ _ _ _ hb, Below.heap_setCell _ _ _ _ hb, Below.heap_setCell _ _ _ _ hb, Below.heap_setCell _ _ _ _ hb, Below.heap_setCell _ _ _ _ hb]
  refine bodyPost_ret (results_cell_row rfl _ _ w.heap.size 66 _ (0, 0) _ hp h5 Tryz.underlying66 rfl Tryz.size66) rfl ?_
  refine ⟨⟨_, rfl, rfl, A, c, A', c', rfl, hA.keep fun b _ hs => ?_, hX.keep fun b _ hs => ?_⟩, hS.rd.of_block (hne fb (by omega)), hT⟩
  all_goals exact ⟨by have : w.heap.size + 2 ≤ b := hs; omega, hne b (by have : w.heap.size + 2 ≤ b := hs; omega)⟩
end
end
end Go.Proofs.YtekfledccpeblaaGreatDoor

/- The document's tactic: a word alone. Written by mktg.py. -/
namespace Go.Proofs.YtekfledccpeblaaGreatDoor
open Go.RowKit

section
variable {fb tb tof tc : Nat} {s : ByteArray} {w : World} {st : FS}
set_option maxRecDepth 100000 in
set_option maxHeartbeats 8000000 in
theorem dtac_bare (n : Nat) (_hnn : n ≤ 900000) (h : DR w fb s st) (hw : TWs w fb tb tof tc) (hl : st.left s < n) (hk0 : tacNo st ≠ 0) (hk : tacNo st ≠ 1 ∧ ¬ (tacNo st = 6 ∨ tacNo st = 7) ∧ tacNo st ≠ 9 ∧ ¬ (tacNo st = 2 ∨ tacNo st = 3 ∨ tacNo st = 8 ∨ tacNo st = 11) ∧ tacNo st ≠ 10) :
    Calls Tryz.prog 32 #[.pointer (some ⟨fb, 0, none⟩)] w fun e w' => DQ w fb s (tacticF s n st).2 (TcR w (tacticF s n st).1) e w' := by
  obtain ⟨fin, hfin⟩ : ∃ fin, fin = tacticF s n st := ⟨_, rfl⟩
  rw [← hfin]
  rw [tac_bare hk0 hk] at hfin
  have hlt := h.lt
  have hk14 := tacNo_lt st
  obtain ⟨k, hkk⟩ : ∃ k, k = tacNo st := ⟨_, rfl⟩
  rw [← hkk] at hk hk14 hk0 hfin
  have HFin := hide hfin
  clear hfin
  obtain ⟨hp, HLa⟩ := tac_kin hkk hk0
  have hlef := FS.step_left h.ok hp.1 (by omega) (by omega)
  have q1 : ((st.code : Int) == 0) = true := by rw [hp.1]; rfl
  have q2 : ((st.t.kd : Int) == 1) = true := by rw [hp.2]; rfl
  have HLe : Hid ((st.step s).left s < n) := hide (by omega)
  have HOk := hide h.ok.step
  have HSt := hide (TD.start h st.t.at_)
  have HW := hide hw
  obtain ⟨d0, d1, d2, d3, d4, d5, d6, df⟩ := (h.alloc (.cells (tcs 0 0 nilV 0 nilV) 66)).cells
  clear d0 d1 d2 d4 d5 d6 df
  clear h hw hkk hp hlef hl
  go_enter Tryz.func32, Tryz.ntmps32
  go_upto_region 2 with fail
  clear d3
  generalize World.alloc _ (.cells (tcs 0 (st.t.at_ : Nat) nilV 0 nilV) 66) = W1 at *
  go_wp2_with fail
  go_loopg [4] 13 (fun g v wr => ∃ j : Nat, 1 ≤ j ∧ j + g = 14 ∧ v = .int .i64 (j : Nat) ∧ Hid (TD w fb s (lastOf tacList st.t.t (j - 1) : Nat) (st.t.at_ : Nat) nilV 0 nilV st wr))
  case atStart => exact ⟨1, by omega, by omega, rfl, HSt.out⟩
  case round =>
    clear HSt
    obtain ⟨j, hj1, hjg, rfl, HS⟩ := hrel
    have HW2 := hide (HW.out.touched HS.out.old)
    have g0 := HW2.out.s
    obtain ⟨c0, c1, c2, c3, c4, c5, c6, cf⟩ := HS.out.rd.cells
    clear c0 c3 c4 c6
    by_cases hj : j < 14
    · have e1 : decide ((j : Int) < 14) = true := by simp; omega
      have e2 : (j : Int) < 14 := by omega
      have gj := HW2.out.c j hj
      have HL : Hid (lastOf tacList st.t.t (j + 1 - 1) = if tacList.getD j ⟨#[]⟩ = st.t.t then j else lastOf tacList st.t.t (j - 1)) := hide (by
        obtain ⟨i, rfl⟩ : ∃ i, j = i + 1 := ⟨j - 1, by omega⟩
        rfl)
      by_cases hq : tacList.getD j ⟨#[]⟩ = st.t.t
      · have q3 := sameStr_pos hq
        rw [if_pos hq] at HL
        generalize tacList.getD j ⟨#[]⟩ = x at *
        clear hq HW2
        go_wp2_with fail
        go_quiet (fail)
        have HS2 := hide (HS.out.later hlt (below_drewN (Below.refl _ _) nq))
        obtain ⟨v0, v1, v2, v3, v4, vf⟩ := cells5 HS2.out.var
        clear v1 v2 v3 v4
        go_wp2_with fail
        go_roundg (14 - (j + 1))
        case measure => omega
        case rel => exact ⟨j + 1, by omega, by omega, by go_num, by rw [HL.out]; exact HS2.out.set hlt 0 (.int .i64 (j : Nat)) rfl⟩
      · have q3 := sameStr_neg hq
        rw [if_neg hq] at HL
        generalize tacList.getD j ⟨#[]⟩ = x at *
        clear hq HW2
        go_wp2_with fail
        go_quiet (fail)
        have HS2 := hide (HS.out.later hlt (below_drewN (Below.refl _ _) nq))
        go_wp2_with fail
        go_roundg (14 - (j + 1))
        case measure => omega
        case rel => exact ⟨j + 1, by omega, by omega, by go_num, by rw [HL.out]; exact HS2.out⟩
    · have e1 : decide ((j : Int) < 14) = false := by simp; omega
      have hj14 : j = 14 := by omega
      have HV : Hid (TD w fb s (k : Nat) (st.t.at_ : Nat) nilV 0 nilV st wr) := hide (by have := HS.out; rw [hj14, HLa.out] at this; exact this)
      obtain ⟨v0, v1, v2, v3, v4, vf⟩ := cells5 HV.out.var
      have e0 : ((k : Int) == 0) = false := by simp; omega
      have KS := hide (HV.out.step hlt)
      clear hj hjg hj1 hj14 HS HW2 HV v1 v2 v3 v4
      generalize st.t.at_ = ta at *
      generalize st.step s = st1 at *
      go_upto_region 11 with (go_at_call 14; refine KS.out.mono ?_; rintro e W2 ⟨rfl, hV2⟩; have HV2 := hide hV2; clear hV2)
      obtain ⟨v0, v1, v2, v3, v4, vf⟩ := cells5 HV2.out.var
      clear KS g0 c1 c2 c5 cf q1 q2 e0 e1 v1 v2 v3 v4
      have e1 : ((k : Int) == 1) = false := by simp; omega
      have e6 : ((k : Int) == 6) = false := by simp; omega
      have e7 : ((k : Int) == 7) = false := by simp; omega
      have e9 : ((k : Int) == 9) = false := by simp; omega
      have e2 : ((k : Int) == 2) = false := by simp; omega
      have e3 : ((k : Int) == 3) = false := by simp; omega
      have e8 : ((k : Int) == 8) = false := by simp; omega
      have e11 : ((k : Int) == 11) = false := by simp; omega
      have e10 : ((k : Int) == 10) = false := by simp; omega
      go_upto_region 34 with fail
      clear v0 vf
      have HV3 := HV2
      obtain ⟨v0, v1, v2, v3, v4, vf⟩ := cells5 HV3.out.var
      obtain ⟨r0, r1, r2, r3, r4, rf⟩ := cells5 HV3.out.res
      go_wp2_with fail
      rw [HFin.out]
      exact dtac_ret (x := ⟨k, ta, [], 0, []⟩) (A := none) (A' := none) (c := 0) (c' := 0) hlt HV3.out (SsIn.nil _ _ _) (XsIn.nil _ _ _) rfl
end
end Go.Proofs.YtekfledccpeblaaGreatDoor

/- The document's tactic: induction, cases. Written by mktg.py. -/
namespace Go.Proofs.YtekfledccpeblaaGreatDoor
open Go.RowKit

section
variable {fb tb tof tc : Nat} {s : ByteArray} {w : World} {st : FS}
set_option maxRecDepth 100000 in
set_option maxHeartbeats 8000000 in
theorem dtac_name (n : Nat) (_hnn : n ≤ 900000) (h : DR w fb s st) (hw : TWs w fb tb tof tc) (hl : st.left s < n) (hk : tacNo st = 6 ∨ tacNo st = 7) :
    Calls Tryz.prog 32 #[.pointer (some ⟨fb, 0, none⟩)] w fun e w' => DQ w fb s (tacticF s n st).2 (TcR w (tacticF s n st).1) e w' := by
  obtain ⟨fin, hfin⟩ : ∃ fin, fin = tacticF s n st := ⟨_, rfl⟩
  rw [← hfin]
  rw [tac_name hk] at hfin
  have hlt := h.lt
  have hk14 := tacNo_lt st
  obtain ⟨k, hkk⟩ : ∃ k, k = tacNo st := ⟨_, rfl⟩
  rw [← hkk] at hk hk14 hfin
  have HFin := hide hfin
  clear hfin
  have hk0 : k ≠ 0 := by omega
  obtain ⟨hp, HLa⟩ := tac_kin hkk hk0
  have hlef := FS.step_left h.ok hp.1 (by omega) (by omega)
  have q1 : ((st.code : Int) == 0) = true := by rw [hp.1]; rfl
  have q2 : ((st.t.kd : Int) == 1) = true := by rw [hp.2]; rfl
  have HLe : Hid ((st.step s).left s < n) := hide (by omega)
  have HOk := hide h.ok.step
  have HSt := hide (TD.start h st.t.at_)
  have HW := hide hw
  obtain ⟨d0, d1, d2, d3, d4, d5, d6, df⟩ := (h.alloc (.cells (tcs 0 0 nilV 0 nilV) 66)).cells
  clear d0 d1 d2 d4 d5 d6 df
  clear h hw hkk hp hlef hl
  go_enter Tryz.func32, Tryz.ntmps32
  go_upto_region 2 with fail
  clear d3
  generalize World.alloc _ (.cells (tcs 0 (st.t.at_ : Nat) nilV 0 nilV) 66) = W1 at *
  go_wp2_with fail
  go_loopg [4] 13 (fun g v wr => ∃ j : Nat, 1 ≤ j ∧ j + g = 14 ∧ v = .int .i64 (j : Nat) ∧ Hid (TD w fb s (lastOf tacList st.t.t (j - 1) : Nat) (st.t.at_ : Nat) nilV 0 nilV st wr))
  case atStart => exact ⟨1, by omega, by omega, rfl, HSt.out⟩
  case round =>
    clear HSt
    obtain ⟨j, hj1, hjg, rfl, HS⟩ := hrel
    have HW2 := hide (HW.out.touched HS.out.old)
    have g0 := HW2.out.s
    obtain ⟨c0, c1, c2, c3, c4, c5, c6, cf⟩ := HS.out.rd.cells
    clear c0 c3 c4 c6
    by_cases hj : j < 14
    · have e1 : decide ((j : Int) < 14) = true := by simp; omega
      have e2 : (j : Int) < 14 := by omega
      have gj := HW2.out.c j hj
      have HL : Hid (lastOf tacList st.t.t (j + 1 - 1) = if tacList.getD j ⟨#[]⟩ = st.t.t then j else lastOf tacList st.t.t (j - 1)) := hide (by
        obtain ⟨i, rfl⟩ : ∃ i, j = i + 1 := ⟨j - 1, by omega⟩
        rfl)
      by_cases hq : tacList.getD j ⟨#[]⟩ = st.t.t
      · have q3 := sameStr_pos hq
        rw [if_pos hq] at HL
        generalize tacList.getD j ⟨#[]⟩ = x at *
        clear hq HW2
        go_wp2_with fail
        go_quiet (fail)
        have HS2 := hide (HS.out.later hlt (below_drewN (Below.refl _ _) nq))
        obtain ⟨v0, v1, v2, v3, v4, vf⟩ := cells5 HS2.out.var
        clear v1 v2 v3 v4
        go_wp2_with fail
        go_roundg (14 - (j + 1))
        case measure => omega
        case rel => exact ⟨j + 1, by omega, by omega, by go_num, by rw [HL.out]; exact HS2.out.set hlt 0 (.int .i64 (j : Nat)) rfl⟩
      · have q3 := sameStr_neg hq
        rw [if_neg hq] at HL
        generalize tacList.getD j ⟨#[]⟩ = x at *
        clear hq HW2
        go_wp2_with fail
        go_quiet (fail)
        have HS2 := hide (HS.out.later hlt (below_drewN (Below.refl _ _) nq))
        go_wp2_with fail
        go_roundg (14 - (j + 1))
        case measure => omega
        case rel => exact ⟨j + 1, by omega, by omega, by go_num, by rw [HL.out]; exact HS2.out⟩
    · have e1 : decide ((j : Int) < 14) = false := by simp; omega
      have hj14 : j = 14 := by omega
      have HV : Hid (TD w fb s (k : Nat) (st.t.at_ : Nat) nilV 0 nilV st wr) := hide (by have := HS.out; rw [hj14, HLa.out] at this; exact this)
      obtain ⟨v0, v1, v2, v3, v4, vf⟩ := cells5 HV.out.var
      have e0 : ((k : Int) == 0) = false := by simp; omega
      have KS := hide (HV.out.step hlt)
      clear hj hjg hj1 hj14 HS HW2 HV v1 v2 v3 v4
      generalize st.t.at_ = ta at *
      generalize st.step s = st1 at *
      go_upto_region 11 with (go_at_call 14; refine KS.out.mono ?_; rintro e W2 ⟨rfl, hV2⟩; have HV2 := hide hV2; clear hV2)
      obtain ⟨v0, v1, v2, v3, v4, vf⟩ := cells5 HV2.out.var
      clear KS g0 c1 c2 c5 cf q1 q2 e0 e1 v1 v2 v3 v4
      have KN := hide (fun W (hW : DR W fb s st1) => dname_calls hW)
      generalize (st1.name s).1 = nm at *
      generalize (st1.name s).2 = st2 at *
      have e1 : ((k : Int) == 1) = false := by simp; omega
      have e67 : ((k : Int) == 6) = true ∨ (((k : Int) == 6) = false ∧ ((k : Int) == 7) = true) := by simp; omega
      obtain ⟨i0, hi, hz0, hz1, hz2⟩ := infoParts Tryz.info9'
      have hl2 := HV2.out.lt
      have HG : Hid (Gw StP 9 1 W2 fb s st1 (w.heap.size + 1) 66 2 (tcs (k : Nat) (ta : Nat) nilV 0 nilV) [] none 0 [] W2) := Gw.start HV2.out.rd HV2.out.var (by omega) rfl
      have hlt2 := HG.out.flt
      have x0 := HG.out.cell
      have xl := HG.out.lt
      have KV := hide (KN.out _ (HG.out.drew keep_StP).rd)
      clear KN
      rcases e67 with e6 | ⟨e6, e7⟩
      all_goals
        go_upto_region 18 with fail
        clear v0 vf e1
        go_region_law (first
          | (refine step_val (f := 27) rfl ?_ KV.out ?_
             · simp [go_sem]
             intro e w5 h5
             obtain ⟨rfl, hR5, hT5⟩ := h5
             refine ⟨_, rfl, ?_⟩
             have HT5 : Hid (Touched W2 fb w5) := ((Touched.refl W2 fb).drew').trans hT5
             have HR5 := hide hR5
             have x5 : w5.cell? ⟨(w.heap.size + 1), 2, none⟩ = some (.slice none 0 0) := (HG.out.touched keep_StP hR5 HT5.out).cell
             have hel5 := (HG.out.touched keep_StP hR5 HT5.out).lt
             have hz5 := HT5.out.size
             have HO : Hid ((w5.alloc (.cells #[.string nm] 9)).ownsRow W2.heap.size 9 1 (.slice none 0 0) 0 []) := (HG.out.row.touched (KL.keeps keep_StP _) HT5.out hlt2).own.alloc (.cells #[.string nm] 9)
             clear hR5 hT5)
          | (refine step_append_own rfl (.tmp 89) (.tmp 92) 38 rfl W2.heap.size 9 i0 _ 1 16 Tryz.underlying38 hi hz0 hz1 hz2 rfl (by decide) (.slice none 0 0) 0 [] ?_ ?_ ⟨w5.heap.size, 0, none⟩ 1 1 [.string nm] ?_ rfl ?_ ?_ (by decide) ?_ ?_ ?_ ?_
             · rfl
             · exact HO.out
             · rfl
             · exact cells_new _ _ _
             · intro u hu; simp at hu; subst hu; rfl
             · unfold maxLen; omega
             · omega
             · simp; omega
             intro v' w6 hown6 hgr6 hpl6
             obtain ⟨A6, c6, hv6, he6, hG6⟩ := Gw.push keep_StP HG.out HR5.out HT5.out rfl rfl hown6 hgr6 hpl6
             have hv7 : v' = .slice A6 1 c6 := by rw [hv6]; simp
             subst hv7
             have x6 := cell_of he6 2 (v := .slice none 0 0) rfl
             have f6 := frozen_of he6 2
             have HG6 := hide hG6
             clear hown6 hgr6 hpl6 hG6 he6 hv6))
        all_goals
          have HV3 := hide (HG6.out.td HV2.out hlt (k' := (k : Nat)) (a' := (ta : Nat)) (m' := 0) (ns' := .slice A6 1 c6) (es' := nilV) rfl)
          have HN3 := hide (HG6.out.names.keep (S' := fun b => w.heap.size + 2 ≤ b) fun b _ hs => ⟨Nat.le_trans hl2 hs, rfl⟩)
          clear HG6 HO HT5 HR5 x5 x6 f6 hz5 hel5 KV HG x0 xl
          generalize w6.setCell ⟨w.heap.size + 1, 2, none⟩ _ = W8 at *
          obtain ⟨v0, v1, v2, v3, v4, vf⟩ := cells5 HV3.out.var
          obtain ⟨r0, r1, r2, r3, r4, rf⟩ := cells5 HV3.out.res
          go_wp2_with fail
          rw [HFin.out]
          exact dtac_ret (x := ⟨k, ta, [nm], 0, []⟩) (A' := none) (c' := 0) hlt HV3.out HN3.out (XsIn.nil _ _ _) rfl
end
end Go.Proofs.YtekfledccpeblaaGreatDoor

/- The document's tactic: exact, apply, rewrite, exists. Written by mktg.py. -/
namespace Go.Proofs.YtekfledccpeblaaGreatDoor
open Go.RowKit

section
variable {fb tb tof tc : Nat} {s : ByteArray} {w : World} {st : FS}
set_option maxRecDepth 100000 in
set_option maxHeartbeats 8000000 in
theorem dtac_expr (n : Nat) (hnn : n ≤ 900000) (h : DR w fb s st) (hw : TWs w fb tb tof tc) (hl : st.left s < n) (hk : tacNo st = 2 ∨ tacNo st = 3 ∨ tacNo st = 8 ∨ tacNo st = 11) :
    Calls Tryz.prog 32 #[.pointer (some ⟨fb, 0, none⟩)] w fun e w' => DQ w fb s (tacticF s n st).2 (TcR w (tacticF s n st).1) e w' := by
  obtain ⟨fin, hfin⟩ : ∃ fin, fin = tacticF s n st := ⟨_, rfl⟩
  rw [← hfin]
  rw [tac_expr hk] at hfin
  have hlt := h.lt
  have hk14 := tacNo_lt st
  obtain ⟨k, hkk⟩ : ∃ k, k = tacNo st := ⟨_, rfl⟩
  rw [← hkk] at hk hk14 hfin
  have HFin := hide hfin
  clear hfin
  have hk0 : k ≠ 0 := by omega
  obtain ⟨hp, HLa⟩ := tac_kin hkk hk0
  have hlef := FS.step_left h.ok hp.1 (by omega) (by omega)
  have q1 : ((st.code : Int) == 0) = true := by rw [hp.1]; rfl
  have q2 : ((st.t.kd : Int) == 1) = true := by rw [hp.2]; rfl
  have HLe : Hid ((st.step s).left s < n) := hide (by omega)
  have HOk := hide h.ok.step
  have HSt := hide (TD.start h st.t.at_)
  have HW := hide hw
  obtain ⟨d0, d1, d2, d3, d4, d5, d6, df⟩ := (h.alloc (.cells (tcs 0 0 nilV 0 nilV) 66)).cells
  clear d0 d1 d2 d4 d5 d6 df
  clear h hw hkk hp hlef hl
  go_enter Tryz.func32, Tryz.ntmps32
  go_upto_region 2 with fail
  clear d3
  generalize World.alloc _ (.cells (tcs 0 (st.t.at_ : Nat) nilV 0 nilV) 66) = W1 at *
  go_wp2_with fail
  go_loopg [4] 13 (fun g v wr => ∃ j : Nat, 1 ≤ j ∧ j + g = 14 ∧ v = .int .i64 (j : Nat) ∧ Hid (TD w fb s (lastOf tacList st.t.t (j - 1) : Nat) (st.t.at_ : Nat) nilV 0 nilV st wr))
  case atStart => exact ⟨1, by omega, by omega, rfl, HSt.out⟩
  case round =>
    clear HSt
    obtain ⟨j, hj1, hjg, rfl, HS⟩ := hrel
    have HW2 := hide (HW.out.touched HS.out.old)
    have g0 := HW2.out.s
    obtain ⟨c0, c1, c2, c3, c4, c5, c6, cf⟩ := HS.out.rd.cells
    clear c0 c3 c4 c6
    by_cases hj : j < 14
    · have e1 : decide ((j : Int) < 14) = true := by simp; omega
      have e2 : (j : Int) < 14 := by omega
      have gj := HW2.out.c j hj
      have HL : Hid (lastOf tacList st.t.t (j + 1 - 1) = if tacList.getD j ⟨#[]⟩ = st.t.t then j else lastOf tacList st.t.t (j - 1)) := hide (by
        obtain ⟨i, rfl⟩ : ∃ i, j = i + 1 := ⟨j - 1, by omega⟩
        rfl)
      by_cases hq : tacList.getD j ⟨#[]⟩ = st.t.t
      · have q3 := sameStr_pos hq
        rw [if_pos hq] at HL
        generalize tacList.getD j ⟨#[]⟩ = x at *
        clear hq HW2
        go_wp2_with fail
        go_quiet (fail)
        have HS2 := hide (HS.out.later hlt (below_drewN (Below.refl _ _) nq))
        obtain ⟨v0, v1, v2, v3, v4, vf⟩ := cells5 HS2.out.var
        clear v1 v2 v3 v4
        go_wp2_with fail
        go_roundg (14 - (j + 1))
        case measure => omega
        case rel => exact ⟨j + 1, by omega, by omega, by go_num, by rw [HL.out]; exact HS2.out.set hlt 0 (.int .i64 (j : Nat)) rfl⟩
      · have q3 := sameStr_neg hq
        rw [if_neg hq] at HL
        generalize tacList.getD j ⟨#[]⟩ = x at *
        clear hq HW2
        go_wp2_with fail
        go_quiet (fail)
        have HS2 := hide (HS.out.later hlt (below_drewN (Below.refl _ _) nq))
        go_wp2_with fail
        go_roundg (14 - (j + 1))
        case measure => omega
        case rel => exact ⟨j + 1, by omega, by omega, by go_num, by rw [HL.out]; exact HS2.out⟩
    · have e1 : decide ((j : Int) < 14) = false := by simp; omega
      have hj14 : j = 14 := by omega
      have HV : Hid (TD w fb s (k : Nat) (st.t.at_ : Nat) nilV 0 nilV st wr) := hide (by have := HS.out; rw [hj14, HLa.out] at this; exact this)
      obtain ⟨v0, v1, v2, v3, v4, vf⟩ := cells5 HV.out.var
      have e0 : ((k : Int) == 0) = false := by simp; omega
      have KS := hide (HV.out.step hlt)
      clear hj hjg hj1 hj14 HS HW2 HV v1 v2 v3 v4
      generalize st.t.at_ = ta at *
      generalize st.step s = st1 at *
      go_upto_region 11 with (go_at_call 14; refine KS.out.mono ?_; rintro e W2 ⟨rfl, hV2⟩; have HV2 := hide hV2; clear hV2)
      obtain ⟨v0, v1, v2, v3, v4, vf⟩ := cells5 HV2.out.var
      clear KS g0 c1 c2 c5 cf q1 q2 e0 e1 v1 v2 v3 v4
      have KN := hide (fun W (hW : DR W fb s st1) => dexpr_all (fb := fb) n hnn st1 W hW HLe.out)
      generalize (exprN s n st1).1 = ex at *
      generalize (exprN s n st1).2 = st2 at *
      have e1 : ((k : Int) == 1) = false := by simp; omega
      have e6 : ((k : Int) == 6) = false := by simp; omega
      have e7 : ((k : Int) == 7) = false := by simp; omega
      have e9 : ((k : Int) == 9) = false := by simp; omega
      have ec : ((k : Int) == 2) = true ∨ (((k : Int) == 2) = false ∧ ((k : Int) == 3) = true) ∨ (((k : Int) == 2) = false ∧ ((k : Int) == 3) = false ∧ ((k : Int) == 8) = true) ∨ (((k : Int) == 2) = false ∧ ((k : Int) == 3) = false ∧ ((k : Int) == 8) = false ∧ ((k : Int) == 11) = true) := by simp; omega
      obtain ⟨i0, hi, hz0, hz1, hz2⟩ := infoParts Tryz.info43'
      have hl2 := HV2.out.lt
      have HG : Hid (Gw XqP 43 9 W2 fb s st1 (w.heap.size + 1) 66 4 (tcs (k : Nat) (ta : Nat) nilV 0 nilV) [] none 0 [] W2) := Gw.start HV2.out.rd HV2.out.var (by omega) rfl
      have hlt2 := HG.out.flt
      have x0 := HG.out.cell
      have xl := HG.out.lt
      have KV := hide (KN.out _ (HG.out.drew keep_XqP).rd)
      clear KN
      rcases ec with e2 | ⟨e2, e3⟩ | ⟨e2, e3, e8⟩ | ⟨e2, e3, e8, ea⟩
      all_goals
        go_upto_region 27 with fail
        clear v0 vf e1 e6 e7 e9
        go_region_law (first
          | (refine step_val (f := 31) rfl ?_ KV.out ?_
             · simp [go_sem]
             intro e w5 h5
             obtain ⟨⟨xv, rfl, hx5⟩, hR5, hT5⟩ := h5
             have HX5 := hide hx5
             obtain ⟨k9, a9, n9, b9, g9, i9, m9, A9, l9, c9, B9, r9, d9, rfl⟩ := hx5.cells
             refine ⟨_, rfl, ?_⟩
             have HT5 : Hid (Touched W2 fb w5) := ((Touched.refl W2 fb).drew').trans hT5
             have HR5 := hide hR5
             have x5 : w5.cell? ⟨(w.heap.size + 1), 4, none⟩ = some (.slice none 0 0) := (HG.out.touched keep_XqP hR5 HT5.out).cell
             have hel5 := (HG.out.touched keep_XqP hR5 HT5.out).lt
             have hz5 := HT5.out.size
             have HO : Hid ((w5.alloc (.cells #[.int .i64 k9, .int .i64 a9, .string n9, .bool b9, .bool g9, .bool i9, .bool m9, .slice A9 l9 c9, .slice B9 r9 d9] 43)).ownsRow W2.heap.size 43 9 (.slice none 0 0) 0 []) := (HG.out.row.touched (KL.keeps keep_XqP _) HT5.out hlt2).own.alloc (.cells #[.int .i64 k9, .int .i64 a9, .string n9, .bool b9, .bool g9, .bool i9, .bool m9, .slice A9 l9 c9, .slice B9 r9 d9] 43)
             clear hx5 hR5 hT5)
          | (refine step_append_own rfl (.tmp 119) (.tmp 122) 41 rfl W2.heap.size 43 i0 _ 9 88 Tryz.underlying41 hi hz0 hz1 hz2 rfl (by decide) (.slice none 0 0) 0 [] ?_ ?_ ⟨w5.heap.size, 0, none⟩ 1 1 [.int .i64 k9, .int .i64 a9, .string n9, .bool b9, .bool g9, .bool i9, .bool m9, .slice A9 l9 c9, .slice B9 r9 d9] ?_ rfl ?_ ?_ (by decide) ?_ ?_ ?_ ?_
             · rfl
             · exact HO.out
             · rfl
             · exact cells_new _ _ _
             · intro u hu; simp at hu; rcases hu with rfl | rfl | rfl | rfl | rfl | rfl | rfl | rfl | rfl <;> rfl
             · unfold maxLen; omega
             · omega
             · simp; omega
             intro v' w6 hown6 hgr6 hpl6
             obtain ⟨A6, c6, hv6, he6, hG6⟩ := Gw.push keep_XqP HG.out HR5.out HT5.out ⟨_, HX5.out, rfl⟩ rfl hown6 hgr6 hpl6
             have hv7 : v' = .slice A6 1 c6 := by rw [hv6]; simp
             subst hv7
             have x6 := cell_of he6 4 (v := .slice none 0 0) rfl
             have f6 := frozen_of he6 4
             have HG6 := hide hG6
             clear hown6 hgr6 hpl6 hG6 he6 hv6))
        all_goals
          have HV3 := hide (HG6.out.td HV2.out hlt (k' := (k : Nat)) (a' := (ta : Nat)) (m' := 0) (ns' := nilV) (es' := .slice A6 1 c6) rfl)
          have HN3 := hide (HG6.out.exprs.keep (S' := fun b => w.heap.size + 2 ≤ b) fun b _ hs => ⟨Nat.le_trans hl2 hs, rfl⟩)
          clear HG6 HO HT5 HR5 HX5 x5 x6 f6 hz5 hel5 KV HG x0 xl
          generalize w6.setCell ⟨w.heap.size + 1, 4, none⟩ _ = W8 at *
          obtain ⟨v0, v1, v2, v3, v4, vf⟩ := cells5 HV3.out.var
          obtain ⟨r0, r1, r2, r3, r4, rf⟩ := cells5 HV3.out.res
          go_wp2_with fail
          rw [HFin.out]
          exact dtac_ret (x := ⟨k, ta, [], 0, [ex]⟩) (A := none) (c := 0) hlt HV3.out (SsIn.nil _ _ _) HN3.out rfl
end
end Go.Proofs.YtekfledccpeblaaGreatDoor
