/- Command, ahead of the walk. No walk. -/
import Derived.Test.YtockffblncdikaaGreatDoorCm
import Derived.Test.YtockffblncdikaaGreatDoorCn
namespace Go.Proofs.YtockffblncdikaaGreatDoor
open Go.RowKit
set_option maxRecDepth 100000
set_option maxHeartbeats 16000000
def CmP (W : World) (S : Nat -> Prop) (c : Cm) (v : Value) : Prop := ∃ a, v = .agg a /\ CmIn W S c a
theorem keep_CmP : Keep1 CmP := fun _ _ _ _ _ _ h ⟨a, e, hc⟩ => ⟨a, e, hc.keep h⟩
def CmsIn (w : World) (S : Nat -> Prop) (A : Option Addr) (l : List Cm) : Prop := ∀ i (h : i < l.length), ∃ (b : Nat) (v : Array Value), A = some ⟨b, 0, none⟩ /\ S b /\ CmIn w S l[i] v /\ ∀ q, q < 26 -> w.cell? ⟨b, i * 26 + q, none⟩ = v[q]?
theorem GRow.cms {W : World} {T n0 : Nat} {l : List Cm} {rv : Value} {ys : List Value} (h : GRow (KL CmP l) W T 26 0 n0 l.length rv ys) : ∃ A c, rv = .slice A l.length c /\ CmsIn W (fun b => n0 <= b) A l := by
 obtain ⟨A, c, e, hp⟩ := h.out (KL.keeps keep_CmP _); refine ⟨A, c, e, fun i hi => ?_⟩; obtain ⟨g, a, ea, hg, hz, hc, hin⟩ := hp i hi; obtain ⟨_, a', e', hv⟩ := hin; injection e' with e'; subst e'
 exact ⟨g, a, ea, hg, hv.keep fun b _ hb => ⟨by rcases hb with hb | hb; omega; exact hb, rfl⟩, hc⟩
theorem CmsIn.nil (w : World) (S : Nat -> Prop) (A : Option Addr) : CmsIn w S A [] := fun i hi => absurd hi (by simp)
theorem CmsIn.keep {w w' : World} {S S' : Nat -> Prop} {A : Option Addr} {l : List Cm} (h : CmsIn w S A l) (hk : ∀ b, b < w.heap.size -> S b -> S' b /\ w'.heap[b]? = w.heap[b]?) : CmsIn w' S' A l := fun i hi => by
 obtain ⟨b, v, e, hs, hc, hq⟩ := h i hi; have hb : b < w.heap.size := World.block_lt_of_cell? _ ⟨b, i * 26 + 0, none⟩ ((hq 0 (by omega)).trans (Array.getElem?_eq_getElem (by rw [hc.size]; omega))); have h1 := hk b hb hs
 exact ⟨b, v, e, h1.1, hc.keep hk, fun q hq' => (World.cell?_of_block h1.2).trans (hq q hq')⟩
theorem Tryz.info63' : (Tryz.prog.info? 63).map (fun i => (i.zero, i.size, i.bytes)) = some (some (.agg (zccs 0)), 26, 312) := by kernel_rfl
theorem wrote_fold : ∀ (l : List Value) (vs : Array Value) (o : Nat), (l.zipIdx o).foldl (fun (cs : Array Value) (x : Value × Nat) => cs.setIfInBounds x.snd x.fst) vs = wrote vs o l
 | [], _, _ => rfl
 | x :: l, vs, o => by
   rw [List.zipIdx_cons, List.foldl_cons]; exact wrote_fold l _ (o + 1)
theorem fold26 {v : Array Value} (h : v.size = 26) : Array.foldl (fun (cs : Array Value) (x : Value × Nat) => cs.setIfInBounds x.snd x.fst) (zccs 0) v.zipIdx 0 26 = v := by
 have hz : v.zipIdx.size = 26 := by simp [h]
 have e1 : Array.foldl (fun (cs : Array Value) (x : Value × Nat) => cs.setIfInBounds x.snd x.fst) (zccs 0) v.zipIdx 0 26 = v.zipIdx.toList.foldl (fun (cs : Array Value) (x : Value × Nat) => cs.setIfInBounds x.snd x.fst) (zccs 0) := by
  rw [Array.foldl_toList, hz]
 rw [e1, Array.toList_zipIdx, wrote_fold]
 apply Array.ext'
 rw [wrote_toList v.toList (zccs 0) 0 [] (zccs 0).toList [] (by simp) rfl (by simp [h])]
 simp
theorem commandF_left {s : ByteArray} {n : Nat} {st : FS} (ho : st.Ok s) (hc : st.code = 0) (hk : kindNo st ≠ 0) : (commandF s n st).2.left s < st.left s := by
 have hkd : st.t.kd = 3 := by
  unfold kindNo at hk
  by_cases hq : st.kin 3 = true
  . unfold FS.kin at hq; simp at hq; exact hq.2
  . rw [if_neg hq] at hk; exact absurd rfl hk
 have hlef := FS.step_left ho hc (by omega) (by omega); rw [commandF_eq hk]
 simp only
 have hd0 := (exprN_fwd (s := s) n).dn (((groupsN_fwd (n := n) (exprN_fwd n) n []).dn ((paramsF_fwd n).dn (Dn.refl ho.step).name)).must (q := sColon))
 have hd := fun c => (((restF_fwd (s := s) n c).dn hd0).must (q := sDot)).left
 exact Nat.lt_of_le_of_lt (hd _) hlef
theorem commands_stop {s : ByteArray} {n : Nat} {st : FS} (h : ¬ (st.code = 0 /\ st.t.kd ≠ 0)) (m : Nat) (l : List Cm) : commandsN s n m l st = (l, st) := by
 cases m with
 | zero => rfl
 | succ m => simp only [commandsN]; rw [if_neg h]
theorem commandsN_bfw {s : ByteArray} (n : Nat) : ∀ (m : Nat) (l : List Cm), Bfw (commandsN s n m l)
 | 0, _ => fun st h => ⟨h, rfl⟩
 | m + 1, l => fun st h => by
   simp only [commandsN]
   split
   . exact (commandF_bfw n st).trans (commandsN_bfw n m _ _) h
   . exact ⟨h, rfl⟩
section
variable {rb : Nat} {mv : Value} {s : ByteArray}
def CmsR (w : World) (l : List Cm) (e : Ending) (w' : World) : Prop := ∃ (A : Option Addr) (c : Nat), e = .returned (.slice A l.length c) /\ CmsIn w' (fun b => w.heap.size <= b) A l
theorem file_calls (n : Nat) (hn : n <= 900000) (st : FS) (w : World) (h : Rdy w rb mv s st) (hl : st.left s < n) :
 Calls Tryz.prog 10 #[.pointer (some ⟨rb, 0, none⟩)] w fun e w' => RX w rb mv s (commandsN s n n [] st).2 (CmsR w (commandsN s n n [] st).1) e w' := by
 have H := hide h; have hlt := h.lt; obtain ⟨fin, hfin⟩ : ∃ fin, fin = commandsN s n n [] st := ⟨_, rfl⟩; rw [<- hfin]; have HFi := hide hfin; obtain ⟨i0, hi, hz0, hz1, hz2⟩ := infoParts Tryz.info63'
 have HS : Hid (RwSt CmP 63 26 w rb mv s [] st none 0 [] w) := RwSt.nil h (Touched.refl _ _); have HLe := hide hl; clear hfin h hl
 go_enter Tryz.func10, Tryz.ntmps10
 go_wp2_with fail
 go_loopg [3] n (fun g v wr => ∃ (l : List Cm) (st' : FS) (A : Option Addr) (c : Nat) (ys : List Value), v = .slice A l.length c /\ Hid (commandsN s n g l st' = fin) /\ Hid (st'.left s < g) /\ l.length + g = n /\ Hid (RwSt CmP 63 26 w rb mv s l st' A c ys wr))
 case atStart => exact ⟨[], st, _, _, _, rfl, HFi.out.symm, HLe.out, by simp, HS.out⟩
 case round =>
  clear HS HLe HFi; obtain ⟨l, st', A, c, ys, rfl, HE, HLt, hlen, HS⟩ := hrel; obtain ⟨g', rfl⟩ : ∃ g', gk = g' + 1 := ⟨gk - 1, by have := HLt.out; omega⟩; have hok := HS.out.rdy.ok; have hco := HS.out.rdy.code
  obtain ⟨kk, tt, q1, q2, q3, hk, -, -, -⟩ := HS.out.rdy.kind; have hk0 := hk 0 (by omega)
  by_cases hp : st'.t.kd ≠ 0
  . have hkq : ((kk : Int) != (0 : Int)) = true := by
     have : ((kk : Int) == (0 : Int)) = false := by rw [show ((0 : Int)) = ((0 : Nat) : Int) from rfl, hk0]; simp [hp]
     simp [bne, this]
    have HE2 : Hid (commandsN s n g' (l ++ [(commandF s n st').1]) (commandF s n st').2 = fin) := hide (by have := HE.out; simp only [commandsN] at this; rw [if_pos ⟨hco, hp⟩] at this; exact this)
    have KC := hide (command_calls n hn st' wr HS.out.rdy (by have := HLt.out; omega))
    have HL2 : Hid ((commandF s n st').2.code = 0 -> (commandF s n st').2.left s < g') := hide fun hc => by
     have hkn : kindNo st' ≠ 0 := fun e0 => by
      rw [commandF_zero e0] at hc; unfold FS.fail at hc; rw [if_pos hco] at hc
      simp at hc
     have := commandF_left (n := n) hok hco hkn; have := HLt.out; omega
    have HB : Hid (Bdn (commandF s n st').2 fin.2) := hide (by rw [<- HE2.out]; exact commandsN_bfw n g' _ _); clear hk hk0 hp hok hco HE HLt; generalize (commandF s n st').1 = x2 at *
    generalize (commandF s n st').2 = st2 at *
    go_wp2_with (go_at_call 18; refine KC.out.mono ?_)
    intro e W4 h4
    rcases h4 with ⟨hc4, hG4, hR4, hT4⟩ | ⟨hc4, hth⟩
    rotate_left
    . have HF : Hid (RX w rb mv s fin.2 (CmsR w fin.1) e W4) := RX.bad hc4 hth HS.out.old HB.out
      obtain ⟨fb, rfl, -⟩ := hth
      go_wp2_with fail
      exact ⟨rfl, HF.out⟩
    obtain ⟨v2, rfl, hm2⟩ := hG4; have HP2 : Hid (CmP W4 (fun b => wr.heap.size <= b) x2 (.agg v2)) := ⟨v2, rfl, hm2⟩; have h26 := hm2.size; have h1c := hm2.one
    have HO4 := hide ((HS.out.row.touched (KL.keeps keep_CmP _) hT4 hlt).own.alloc (.cells v2 63)); have hz3 := HS.out.old.size; have hz4 := hT4.size; have HR4 := hide hR4; have HT4 := hide hT4
    have HL4 := hide (HL2.out hc4); clear hR4 hT4 KC hm2 q1 q2 q3 HL2; have HFo := hide (fold26 h26)
    go_wp2_with (at_builtin; rw [HFo.out]; refine wpList_append_placed _ rfl _ _ 23 rfl w.heap.size 63 i0 _ 26 312 Tryz.underlying23 hi hz0 hz1 hz2 rfl (by decide) (.slice A l.length c) l.length (flat ys) rfl HO4.out ⟨W4.heap.size, 0, none⟩ 1 1 v2.toList rfl (by simp [h26]) (cells_new _ v2.toList _) (fun u hu => by rw [Array.all_eq_true_iff_forall_mem] at h1c; exact h1c u (by simpa using hu)) (by decide) (by unfold maxLen; omega) (by omega) (by simp; omega) ?_)
    intro v' w6 hown6 hgr6 hpl6; obtain ⟨A6, c6, hv6, hS6⟩ := RwSt.snoc keep_CmP (x := x2) H.out HS.out HR4.out HT4.out HP2.out h26 hown6 hgr6 (by simpa using hpl6); subst hv6; have HS6 := hide hS6
    clear hown6 hgr6 hpl6 hS6 HO4 HR4 HT4 HS HP2 HFo
    go_wp2_with fail
    go_roundg g'
    case measure => omega
    case rel => exact ⟨l ++ [x2], st2, A6, c6, _, by simp, HE2.out, HL4.out, by simp; omega, HS6.out⟩
  . have hp' : st'.t.kd = 0 := by omega
    have hkq : ((kk : Int) != (0 : Int)) = false := by
     have : ((kk : Int) == (0 : Int)) = true := by rw [show ((0 : Int)) = ((0 : Nat) : Int) from rfl, hk0]; simp [hp']
     simp [bne, this]
    have hfi : fin = (l, st') := by rw [<- HE.out, commands_stop (fun h => hp h.2)]
    subst hfi; have HCo := hide hco
    have HF : Hid (RX w rb mv s st' (CmsR w l) (.returned (.slice A l.length c)) wr) := by
     obtain ⟨A', c', e', hL⟩ := GRow.cms (l := l) HS.out.row; injection e' with e1 e2 e3; subst e1; exact .inl ⟨HCo.out, ⟨A, c, rfl, hL⟩, HS.out.rdy, HS.out.old⟩
    clear HE HLt hp hp' hok hco HS hk hk0
    go_wp2_with fail
    go_ret; exact HF.out
end
theorem ccs_ty {k a : Int} {nm : ByteArray} {ps bs : Value} {tv vv : Array Value} {tac : Bool} {ts cs : Value} (h1 : tv.size = 9) {q : Nat} (hq : q < 9) : (ccs k a nm ps bs tv.toList vv.toList tac ts cs)[5 + q]? = tv[q]? := by
 rw [<- Array.getElem?_toList, <- Array.getElem?_toList]; show (.int .i64 k :: .int .i64 a :: .string nm :: ps :: bs :: (tv.toList ++ (vv.toList ++ [.bool tac, ts, cs])) : List Value)[5 + q]? = _
 rw [show 5 + q = q + 1 + 1 + 1 + 1 + 1 by omega]
 simp only [List.getElem?_cons_succ]
 rw [List.getElem?_append_left (by simp; omega)]
theorem ccs_vl {k a : Int} {nm : ByteArray} {ps bs : Value} {tv vv : Array Value} {tac : Bool} {ts cs : Value} (h1 : tv.size = 9) (h2 : vv.size = 9) {q : Nat} (hq : q < 9) : (ccs k a nm ps bs tv.toList vv.toList tac ts cs)[14 + q]? = vv[q]? := by
 rw [<- Array.getElem?_toList, <- Array.getElem?_toList]; show (.int .i64 k :: .int .i64 a :: .string nm :: ps :: bs :: (tv.toList ++ (vv.toList ++ [.bool tac, ts, cs])) : List Value)[14 + q]? = _
 rw [show 14 + q = (9 + q) + 1 + 1 + 1 + 1 + 1 by omega]
 simp only [List.getElem?_cons_succ]
 rw [List.getElem?_append_right (by simp; omega), List.getElem?_append_left (by simp; omega)]
 congr 1
 simp
 omega
theorem ccs_end {k a : Int} {nm : ByteArray} {ps bs : Value} {tv vv : Array Value} {tac : Bool} {ts cs : Value} (h1 : tv.size = 9) (h2 : vv.size = 9) {q : Nat} : (ccs k a nm ps bs tv.toList vv.toList tac ts cs)[23 + q]? = [Value.bool tac, ts, cs][q]? := by
 rw [<- Array.getElem?_toList]; show (.int .i64 k :: .int .i64 a :: .string nm :: ps :: bs :: (tv.toList ++ (vv.toList ++ [.bool tac, ts, cs])) : List Value)[23 + q]? = _
 rw [show 23 + q = (9 + (9 + q)) + 1 + 1 + 1 + 1 + 1 by omega]
 simp only [List.getElem?_cons_succ]
 rw [List.getElem?_append_right (by simp; omega), List.getElem?_append_right (by simp; omega)]
 congr 1
 simp
 omega
def ComAt (w : World) (n0 : Nat) (c : Cm) (b o : Nat) : Prop := ∃ v, b < n0 /\ CmIn w (fun b => b < n0) c v /\ ∀ q, q < 26 -> w.cell? ⟨b, o + q, none⟩ = v[q]?
theorem ComAt.open {w : World} {n0 : Nat} {c : Cm} {b o : Nat} (h : ComAt w n0 c b o) : ∃ (Ap : Option Addr) (np : Nat) (Ab : Option Addr) (nb : Nat) (At : Option Addr) (nt : Nat) (Ac : Option Addr) (nc : Nat), b < n0 /\ w.cell? ⟨b, o, none⟩ = some (.int .i64 (c.kd : Nat)) /\ w.cell? ⟨b, o + 2, none⟩ = some (.string c.nm) /\ w.cell? ⟨b, o + 3, none⟩ = some (.slice Ap c.ps.length np) /\ w.cell? ⟨b, o + 4, none⟩ = some (.slice Ab c.bs.length nb) /\ w.cell? ⟨b, o + 23, none⟩ = some (.bool c.tac) /\ w.cell? ⟨b, o + 24, none⟩ = some (.slice At c.tcs.length nt) /\ w.cell? ⟨b, o + 25, none⟩ = some (.slice Ac c.cts.length nc) /\ XAt w (fun b => b < n0) c.ty b (o + 5) /\ XAt w (fun b => b < n0) c.vl b (o + 14) /\ TxIn w n0 Ap c.ps /\ BrsIn w (fun b => b < n0) Ab c.bs /\ TcsIn w (fun b => b < n0) At c.tcs /\ CtsIn w (fun b => b < n0) Ac c.cts := by
 obtain ⟨v, hb, ⟨Ap, np, Ab, nb, At, nt, Ac, nc, tv, vv, e, h1, h2, h3, h4, h5, h6⟩, hc⟩ := h; subst e; have z1 := h3.size; have z2 := h4.size
 refine ⟨Ap, np, Ab, nb, At, nt, Ac, nc, hb, (hc 0 (by omega)).trans rfl, (hc 2 (by omega)).trans rfl, (hc 3 (by omega)).trans rfl, (hc 4 (by omega)).trans rfl, (hc 23 (by omega)).trans (ccs_end z1 z2 (q := 0)), (hc 24 (by omega)).trans (ccs_end z1 z2 (q := 1)), (hc 25 (by omega)).trans (ccs_end z1 z2 (q := 2)), ⟨tv, hb, h3, fun q hq => ?_⟩, ⟨vv, hb, h4, fun q hq => ?_⟩, h1, h2, h5, h6⟩
 . rw [Nat.add_assoc]
   exact (hc (5 + q) (by omega)).trans (ccs_ty z1 hq)
 . rw [Nat.add_assoc]
   exact (hc (14 + q) (by omega)).trans (ccs_vl z1 z2 hq)
theorem CmsIn.at {w : World} {n0 : Nat} {A : Option Addr} {l : List Cm} (h : CmsIn w (fun b => b < n0) A l) (j : Nat) (hj : j < l.length) : ∃ b, A = some ⟨b, 0, none⟩ /\ ComAt w n0 l[j] b (j * 26) := by
 obtain ⟨b, v, e, hb, hi, hc⟩ := h j hj; exact ⟨b, e, v, hb, hi, hc⟩
theorem BrsIn.at {w : World} {n0 : Nat} {A : Option Addr} {l : List Bd} (h : BrsIn w (fun b => b < n0) A l) (j : Nat) (hj : j < l.length) : ∃ b, A = some ⟨b, 0, none⟩ /\ b < n0 /\ w.cell? ⟨b, j * 11, none⟩ = some (.string l[j].nm) /\ w.cell? ⟨b, j * 11 + 1, none⟩ = some (.bool l[j].im) /\ XAt w (fun b => b < n0) l[j].ty b (j * 11 + 2) := by
 obtain ⟨b, xv, e, hb, hx, hc⟩ := h j hj; have hz := hx.size; refine ⟨b, e, hb, (hc 0 (by omega)).trans ?_, (hc 1 (by omega)).trans ?_, ⟨xv, hb, hx, fun q hq => ?_⟩⟩
 . show (#[Value.string l[j].nm, .bool l[j].im] ++ xv)[0]? = _
   rw [Array.getElem?_append_left (by simp)]
   rfl
 . show (#[Value.string l[j].nm, .bool l[j].im] ++ xv)[1]? = _
   rw [Array.getElem?_append_left (by simp)]
   rfl
 . have := hc (2 + q) (by omega)
   rw [<- Nat.add_assoc] at this; rw [this]; show (#[Value.string l[j].nm, .bool l[j].im] ++ xv)[2 + q]? = xv[q]?; rw [Array.getElem?_append_right (by simp)]
   congr 1
   simp
def TacAt (w : World) (n0 : Nat) (t : Tc) (b o : Nat) : Prop := ∃ (A : Option Addr) (c : Nat) (A' : Option Addr) (c' : Nat), b < n0 /\ w.cell? ⟨b, o, none⟩ = some (.int .i64 (t.kd : Nat)) /\ w.cell? ⟨b, o + 2, none⟩ = some (.slice A t.nms.length c) /\ w.cell? ⟨b, o + 3, none⟩ = some (.int .i64 (t.num : Nat)) /\ w.cell? ⟨b, o + 4, none⟩ = some (.slice A' t.xs.length c') /\ TxIn w n0 A t.nms /\ ∀ i (h : i < t.xs.length), ∃ g, A' = some ⟨g, 0, none⟩ /\ XAt w (fun b => b < n0) t.xs[i] g (i * 9)
theorem TcsIn.at {w : World} {n0 : Nat} {A : Option Addr} {l : List Tc} (h : TcsIn w (fun b => b < n0) A l) (j : Nat) (hj : j < l.length) : ∃ b, A = some ⟨b, 0, none⟩ /\ TacAt w n0 l[j] b (j * 5) := by
 obtain ⟨b, a, e, hb, hz, hc, A1, c1, A2, c2, hv, h1, vs, h2, h3⟩ := h j hj; injection hv with hv; subst hv
 refine ⟨b, e, A1, c1, A2, c2, hb, (hc 0 (by omega)).trans rfl, (hc 2 (by omega)).trans rfl, (hc 3 (by omega)).trans rfl, (hc 4 (by omega)).trans rfl, h1, fun i hi => ?_⟩; obtain ⟨g, eg, hg, _, hq⟩ := h2 i hi
 exact ⟨g, eg, vs i, hg, h3 i hi, hq⟩
theorem par_toks (ps : List ByteArray) : (lstP (ps.map Pc.tok)).flatMap Pc.toks = parK ps := by
 unfold parK
 cases ps with
 | nil => rfl
 | cons p ps =>
   rw [if_neg (by simp), lst_toks (by simp), List.map_map]
   rfl
theorem tok_wt : ∀ ps : List ByteArray, wtS (ps.map Pc.tok) = ps.length
 | [] => rfl
 | p :: ps => by
   have := tok_wt ps; show (1 : Nat) + wtS (ps.map Pc.tok) = ps.length + 1; omega
theorem tok_oks {w : World} {n0 : Nat} {ps : List ByteArray} (h : ∀ q ∈ ps, q.size <= 100) : ∀ p ∈ ps.map Pc.tok, p.Ok w n0 := fun p hp => by
 obtain ⟨q, hq, rfl⟩ := List.mem_map.1 hp; exact h q hq
structure CmK (tf : Ex -> List ByteArray) (c : Cm) : Prop where
 kd : 1 <= c.kd /\ c.kd <= 4
 nm : c.nm.size <= 100
 ps : ∀ q ∈ c.ps, q.size <= 100
 pl : c.ps.length <= 1000000
 bs : ∀ b ∈ c.bs, b.nm.size <= 100 /\ Sp b.ty (tf b.ty) /\ ExFit 1000000 b.ty
 bl : c.bs.length <= 1000000000000
 ty : Sp c.ty (tf c.ty) /\ ExFit 1000000 c.ty
 vl : c.kd = 2 \/ (c.kd = 3 /\ c.tac = false) -> Sp c.vl (tf c.vl) /\ ExFit 1000000 c.vl
 cts : ∀ k ∈ c.cts, Sp k.ty (tf k.ty) /\ ExFit 1000000 k.ty /\ k.nm.size <= 100
 cl : c.cts.length <= 1000000
structure CmW (c : Cm) : Prop where
 bs : ∀ b ∈ c.bs, xw b.ty + 10 <= 33554432
 ty : xw c.ty + 10 <= 33554432
 vl : c.kd = 2 \/ (c.kd = 3 /\ c.tac = false) -> xw c.vl + 10 <= 33554432
 cts : ∀ k ∈ c.cts, xw k.ty + 10 <= 33554432
structure TcK (tf : Ex -> List ByteArray) (t : Tc) : Prop where
 kd : 1 <= t.kd /\ t.kd < 14
 num : t.num < 100
 xs : ∀ e ∈ t.xs, Sp e (tf e) /\ ExFit 1000000 e
 nm : ∀ q ∈ t.nms, q.size <= 100
 nl : t.nms.length <= 1000000
 xl : t.xs.length <= 1000000
structure CmAll (tf : Ex -> List ByteArray) (c : Cm) : Prop where
 cm : CmK tf c
 tc : ∀ t ∈ c.tcs, TcK tf t
 tl : c.tcs.length <= 1000000
structure CmLight (c : Cm) : Prop where
 cm : CmW c
 tc : ∀ t ∈ c.tcs, ∀ e ∈ t.xs, xw e + 10 <= 33554432
theorem kind_cell {w : World} (h : w.rangeAt 0 0 cwv) {k : Nat} (hk : 1 <= k /\ k <= 4) : w.cell? ⟨0, k, none⟩ = some (.string (kindW k)) := by
 have hk' : k = 1 \/ k = 2 \/ k = 3 \/ k = 4 := by omega
 rcases hk' with rfl | rfl | rfl | rfl
 . exact h 1 _ rfl
 . exact h 2 _ rfl
 . exact h 3 _ rfl
 . exact h 4 _ rfl
theorem kind_few {k : Nat} (hk : 1 <= k /\ k <= 4) : (kindW k).size <= 100 := by
 have := (kindW_ok hk.1 hk.2).2.1; omega
section
variable {n0 pb : Nat} {wb : Wk} {l : List UInt8} {B : Prop} {w0 : World}
theorem com_end {l' : List UInt8} {tks : List ByteArray} {t : List UInt8} {w : World} (h : Wr B n0 w0 pb wb l' true tks w) (hl : l.length <= l'.length) (he : l'.length < 8388608 -> l' = l ++ t) (hB : B \/ (l' ++ tokT true tks).length + 1 < 8388608) :
 Calls Tryz.prog 57 #[.pointer (some ⟨pb, 0, none⟩), .string ⟨#[10]⟩] w fun e w' => (e = .returned (.tuple #[]) /\ (∃ u, w'.cell? ⟨pb, 5, none⟩ = some u) /\ w'.frozen? ⟨pb, 5, none⟩ = false /\ Hid (WrL B n0 w0 pb wb l (t ++ (tokT true tks ++ [10])) (w'.setCell ⟨pb, 5, none⟩ (.bool true)))) \/ ((∃ fb, e = .panicked [{ v := .iface 41 (.pointer (some ⟨fb, 0, none⟩)), recovered := false }]) /\ Hid (B /\ Thr n0 w0 e w')) := by
 obtain ⟨l2, tg2, hP, hlow, hll, hs, hg⟩ := h; refine (put_calls (B := B) (⟨#[10]⟩ : ByteArray) (by decide) w hP ?_).mono ?_
 . have e1 : (⟨#[10]⟩ : ByteArray).size = 1 := rfl
   rcases hs with hs | hs
   . exact .inl hs
   . exact .inr (by omega)
 . intro e w' hr
   rcases hr with ⟨he', hP2, hb2⟩ | ⟨hB', hth⟩
   . have hlo := hP2.lo
     refine .inl ⟨he', hP2.cell5, hP2.cells.2.2.2 5, hide ⟨_, hP2.setTg true, (hlow.trans hb2).setCell (p := ⟨pb, 5, none⟩) hlo _, by simp; omega, ?_, fun hh => ?_⟩⟩
     . rcases hB with hB | hB
       . exact .inl hB
       . rcases hs with hs | hs
         . exact .inl hs
         . refine .inr ?_
           rw [(hg hs).1, List.length_append]; exact hB
     . rw [List.length_append] at hh
       have h1 := (hg (by omega)).1; have h2 : l'.length < 8388608 := by omega
       rw [h1, he h2]; show _ ++ [10] = _
       simp
   . have hth' := hth.from hlow
     obtain ⟨hb3, fb, he⟩ := hth; exact .inr ⟨⟨fb, he⟩, hide ⟨hB', hth'⟩⟩
end
end Go.Proofs.YtockffblncdikaaGreatDoor
