/- The contract of commands, from command's. -/
import Derived.Test.YtockffblncdikaaGreatDoorTt
import Derived.Test.YtockffblncdikaaGreatDoorPv
namespace Go.Proofs.YtockffblncdikaaGreatDoor
open Go.RowKit
set_option maxRecDepth 100000
set_option maxHeartbeats 16000000
def TcsIn (w : World) (S : Nat -> Prop) (A : Option Addr) (l : List Tc) : Prop := ∀ i (h : i < l.length), ∃ (b : Nat) (a : Array Value), A = some ⟨b, 0, none⟩ /\ S b /\ a.size = 5 /\ (∀ q, q < 5 -> w.cell? ⟨b, i * 5 + q, none⟩ = a[q]?) /\ TcP w S l[i] (.agg a)
theorem GRow.tcs {W : World} {T n0 : Nat} {l : List Tc} {rv : Value} {ys : List Value} (h : GRow (KL TcP l) W T 5 0 n0 l.length rv ys) : ∃ A c, rv = .slice A l.length c /\ TcsIn W (fun b => n0 <= b) A l := by
 obtain ⟨A, c, e, hp⟩ := h.out (KL.keeps keep_TcP _); refine ⟨A, c, e, fun i hi => ?_⟩; obtain ⟨g, a, ea, hg, hz, hc, hin⟩ := hp i hi; obtain ⟨_, hv⟩ := hin
 exact ⟨g, a, ea, hg, hz, hc, keep_TcP _ _ _ _ _ _ (fun b _ hb => ⟨by rcases hb with hb | hb; omega; exact hb, rfl⟩) hv⟩
theorem TcsIn.nil (w : World) (S : Nat -> Prop) (A : Option Addr) : TcsIn w S A [] := fun i hi => absurd hi (by simp)
theorem TcsIn.keep {w w' : World} {S S' : Nat -> Prop} {A : Option Addr} {l : List Tc} (h : TcsIn w S A l) (hk : ∀ b, b < w.heap.size -> S b -> S' b /\ w'.heap[b]? = w.heap[b]?) : TcsIn w' S' A l := fun i hi => by
 obtain ⟨b, a, e, hs, hz, hc, hp⟩ := h i hi; have hb : b < w.heap.size := World.block_lt_of_cell? _ ⟨b, i * 5 + 0, none⟩ ((hc 0 (by omega)).trans (Array.getElem?_eq_getElem (by omega))); have h1 := hk b hb hs
 exact ⟨b, a, e, h1.1, hz, fun q hq => (World.cell?_of_block h1.2).trans (hc q hq), keep_TcP _ _ _ _ _ _ hk hp⟩
theorem Tryz.info133' : (Tryz.prog.info? 133).map (fun i => (i.zero, i.size, i.bytes)) = some (some (.agg #[.int .i64 0, .int .i64 0, .slice none 0 0, .int .i64 0, .slice none 0 0]), 5, 72) := by kernel_rfl
theorem step_tac {s : ByteArray} {st : FS} (ho : st.Ok s) (hc : st.code = 0) : (st.step s).t.kd <= 3 -> (st.step s).t.kd ≠ 1 -> ∀ q ∈ tacWords, (st.step s).t.t ≠ q := by
 have e : (st.step s).t = (lex s st.e).1 := by unfold FS.step; rw [if_pos hc]
 rw [e]; exact fun _ h => lex_tac ho.le h
section
variable {rb : Nat} {mv : Value} {s : ByteArray}
def TcsR (w : World) (l : List Tc) (e : Ending) (w' : World) : Prop := ∃ (A : Option Addr) (c : Nat), e = .returned (.slice A l.length c) /\ TcsIn w' (fun b => w.heap.size <= b) A l
theorem tactics_stop {n : Nat} {st : FS} (h : st.is sSemi = false) (m : Nat) (l : List Tc) : tacticsN s n m l st = (l, st) := by
 cases m with
 | zero => rfl
 | succ m => simp only [tacticsN]; rw [if_neg (by rw [h]; simp)]
theorem proof_calls (n : Nat) (hn : n <= 900000) (st : FS) (w : World) (h : Rdy w rb mv s st) (hl : st.left s < n) (hw : st.t.kd <= 3 -> st.t.kd ≠ 1 -> ∀ q ∈ tacWords, st.t.t ≠ q) :
 Calls Tryz.prog 48 #[.pointer (some ⟨rb, 0, none⟩)] w fun e w' => RX w rb mv s (tacticsN s n n [(tacticF s n st).1] (tacticF s n st).2).2 (TcsR w (tacticsN s n n [(tacticF s n st).1] (tacticF s n st).2).1) e w' := by
 have H := hide h; have hlt := h.lt; have KA := hide (tactic_calls n hn st w h hl hw); have HLe : Hid ((tacticF s n st).2.left s < n) := hide (by have := (tacticF_fwd (s := s) n st h.ok).left; omega)
 obtain ⟨fin, hfin⟩ : ∃ fin, fin = tacticsN s n n [(tacticF s n st).1] (tacticF s n st).2 := ⟨_, rfl⟩; rw [<- hfin]; have HFi := hide hfin; obtain ⟨i0, hi, hz0, hz1, hz2⟩ := infoParts Tryz.info133'; clear hfin h hl hw
 generalize (tacticF s n st).1 = x1 at *; generalize (tacticF s n st).2 = st1 at *
 go_enter Tryz.func48, Tryz.ntmps48
 go_wp2_with (go_at_call 73; refine KA.out.mono ?_)
 intro e W1 h1
 rcases h1 with ⟨hc1, hG1, hR1, hT1⟩ | ⟨hc1, hth⟩
 rotate_left
 . have HF : Hid (RX w rb mv s fin.2 (TcsR w fin.1) e W1) := RX.bad hc1 hth (Touched.refl _ _) (by rw [HFi.out]; exact tacticsN_bfw n n _ st1)
   obtain ⟨fb, rfl, -⟩ := hth
   go_wp2_with fail
   exact ⟨rfl, HF.out⟩
 obtain ⟨a1, rfl, haz, hp1⟩ := hG1; obtain ⟨Aa, ca, Ab, cb, hv1, hss, hxx⟩ := hp1; injection hv1 with hv1; subst hv1
 have HS : Hid (RwSt TcP 133 5 w rb mv s [x1] st1 (some ⟨W1.heap.size, 0, none⟩) 1 [.agg (tcs (x1.kd : Nat) (x1.at_ : Nat) (.slice Aa x1.nms.length ca) (x1.num : Nat) (.slice Ab x1.xs.length cb))] (W1.alloc (.cells (tcs (x1.kd : Nat) (x1.at_ : Nat) (.slice Aa x1.nms.length ca) (x1.num : Nat) (.slice Ab x1.xs.length cb)) 133))) := RwSt.one keep_TcP hR1 hT1 ⟨Aa, ca, Ab, cb, rfl, hss, hxx⟩ rfl
 clear hR1 hT1 KA hss hxx haz; generalize x1.nms.length = l1 at *; generalize x1.xs.length = l2 at *
 go_wp2_with fail
 go_loopg [3] n (fun g v wr => ∃ (ls : List Tc) (st' : FS) (A : Option Addr) (c : Nat) (ys : List Value), v = .slice A ls.length c /\ Hid (tacticsN s n g ls st' = fin) /\ Hid (st'.left s < g) /\ ls.length + g = n + 1 /\ Hid (RwSt TcP 133 5 w rb mv s ls st' A c ys wr))
 case atStart => exact ⟨[x1], st1, _, _, _, rfl, HFi.out.symm, HLe.out, by simp; omega, HS.out⟩
 case round =>
  clear HS HLe HFi; obtain ⟨ls, st', A, c, ys, rfl, HE, HLt, hlen, HS⟩ := hrel; obtain ⟨g', rfl⟩ : ∃ g', gk = g' + 1 := ⟨gk - 1, by have := HLt.out; omega⟩; have hok := HS.out.rdy.ok; have hco := HS.out.rdy.code
  have KT := hide (tookQ HS.out.rdy sSemi)
  by_cases hp : st'.is sSemi = true
  . have hkd := (FS.is_kd hp).2.1
    have hlef := FS.step_left hok hco (by omega) (by omega)
    have HE2 : Hid (tacticsN s n g' (ls ++ [(tacticF s n (st'.step s)).1]) (tacticF s n (st'.step s)).2 = fin) := hide (by have := HE.out; simp only [tacticsN] at this; rw [if_pos hp] at this; exact this)
    have HL2 : Hid ((tacticF s n (st'.step s)).2.left s < g') := hide (by have := (tacticF_fwd (s := s) n (st'.step s) hok.step).left; have := HLt.out; omega)
    have HLv : Hid (∀ W, Rdy W rb mv s (st'.step s) -> Calls Tryz.prog 73 #[.pointer (some ⟨rb, 0, none⟩)] W fun e w' => RX W rb mv s (tacticF s n (st'.step s)).2 (TcR W (tacticF s n (st'.step s)).1) e w') := hide fun W hW => tactic_calls n hn _ W hW (by have := HLt.out; omega) (step_tac hok hco)
    have HB : Hid (Bdn (tacticF s n (st'.step s)).2 fin.2) := hide (by rw [<- HE2.out]; exact tacticsN_bfw n g' _ _); rw [hp, if_pos rfl] at KT; clear hlef hkd hp hok hco HE HLt
    generalize (tacticF s n (st'.step s)).1 = x2 at *; generalize (tacticF s n (st'.step s)).2 = st2 at *; generalize st'.step s = stb at *
    go_wp2_with (go_at_call 38; refine KT.out.mono ?_)
    first | (intro e W3 he hR3 hT3; subst he) | (rintro e W3 ⟨rfl, hR3, hT3⟩)
    have HS3 := hide (HS.out.touched keep_TcP hR3 hT3 hlt); have KV := hide (HLv.out W3 hR3); clear hR3 hT3 KT HLv HS
    go_wp2_with (go_at_call 73; refine KV.out.mono ?_)
    intro e W4 h4
    rcases h4 with ⟨hc4, hG4, hR4, hT4⟩ | ⟨hc4, hth⟩
    rotate_left
    . have HF : Hid (RX w rb mv s fin.2 (TcsR w fin.1) e W4) := RX.bad hc4 hth HS3.out.old HB.out
      obtain ⟨fb, rfl, -⟩ := hth
      go_wp2_with fail
      exact ⟨rfl, HF.out⟩
    obtain ⟨a2, rfl, haz, hp2⟩ := hG4; have HP2 := hide hp2; obtain ⟨Aa, ca, Ab, cb, hv2, hss, hxx⟩ := hp2; injection hv2 with hv2; subst hv2
    have HO4 := hide ((HS3.out.row.touched (KL.keeps keep_TcP _) hT4 hlt).own.alloc (.cells (tcs (x2.kd : Nat) (x2.at_ : Nat) (.slice Aa x2.nms.length ca) (x2.num : Nat) (.slice Ab x2.xs.length cb)) 133))
    have hz3 := HS3.out.old.size; have hz4 := hT4.size; have HR4 := hide hR4; have HT4 := hide hT4; clear hR4 hT4 KV hss hxx haz; generalize x2.nms.length = l1 at *; generalize x2.xs.length = l2 at *
    go_wp2_with (at_builtin; refine wpList_append_placed _ rfl _ _ 60 rfl w.heap.size 133 i0 _ 5 72 Tryz.underlying60 hi hz0 hz1 hz2 rfl (by decide) (.slice A ls.length c) ls.length (flat ys) rfl HO4.out ⟨W4.heap.size, 0, none⟩ 1 1 [.int .i64 (x2.kd : Nat), .int .i64 (x2.at_ : Nat), .slice Aa l1 ca, .int .i64 (x2.num : Nat), .slice Ab l2 cb] rfl rfl (cells_new _ [.int .i64 (x2.kd : Nat), .int .i64 (x2.at_ : Nat), .slice Aa l1 ca, .int .i64 (x2.num : Nat), .slice Ab l2 cb] _) (by intro u hu; simp at hu; rcases hu with rfl | rfl | rfl | rfl | rfl <;> rfl) (by decide) (by unfold maxLen; omega) (by omega) (by simp; omega) ?_)
    intro v' w6 hown6 hgr6 hpl6; obtain ⟨A6, c6, hv6, hS6⟩ := RwSt.snoc keep_TcP (x := x2) H.out HS3.out HR4.out HT4.out HP2.out rfl hown6 hgr6 (by simpa using hpl6); subst hv6; have HS6 := hide hS6
    clear hown6 hgr6 hpl6 hS6 HO4 HR4 HT4 HS3 HP2
    go_wp2_with fail
    go_roundg g'
    case measure => omega
    case rel => exact ⟨ls ++ [x2], st2, A6, c6, _, by simp, HE2.out, HL2.out, by simp; omega, HS6.out⟩
  . have hp' : st'.is sSemi = false := by simpa using hp
    have hfi : fin = (ls, st') := by rw [<- HE.out, tactics_stop hp']
    rw [hp', if_neg (by simp)] at KT; subst hfi; have HCo := hide hco; clear HE HLt hp hp' hok hco
    go_wp2_with (go_at_call 38; refine KT.out.mono ?_)
    first | (intro e W3 he hR3 hT3; subst he) | (rintro e W3 ⟨rfl, hR3, hT3⟩)
    have HF : Hid (RX w rb mv s st' (TcsR w ls) (.returned (.slice A ls.length c)) W3) := by
     have hrow := HS.out.row.touched (KL.keeps keep_TcP _) hT3 hlt; obtain ⟨A', c', e', hL⟩ := GRow.tcs (l := ls) hrow; injection e' with e1 e2 e3; subst e1
     exact .inl ⟨HCo.out, ⟨A, c, rfl, hL⟩, hR3, HS.out.old.trans hT3⟩
    clear hR3 hT3 KT HS
    go_wp2_with fail
    go_ret; exact HF.out
end
abbrev brcs (nm : ByteArray) (im : Bool) (xv : Array Value) : Array Value := #[.string nm, .bool im] ++ xv
def BrP (W : World) (S : Nat -> Prop) (b : Bd) (v : Value) : Prop := ∃ xv, InX W S b.ty xv /\ v = .agg (brcs b.nm b.im xv)
theorem keep_BrP : Keep1 BrP := fun _ _ _ _ _ _ h ⟨xv, hx, e⟩ => ⟨xv, hx.keep h, e⟩
def BrsIn (w : World) (S : Nat -> Prop) (A : Option Addr) (l : List Bd) : Prop := ∀ i (h : i < l.length), ∃ b xv, A = some ⟨b, 0, none⟩ /\ S b /\ InX w S l[i].ty xv /\ ∀ q, q < 11 -> w.cell? ⟨b, i * 11 + q, none⟩ = (brcs l[i].nm l[i].im xv)[q]?
theorem GRow.brs {W : World} {T n0 : Nat} {l : List Bd} {rv : Value} {ys : List Value} (h : GRow (KL BrP l) W T 11 0 n0 l.length rv ys) : ∃ A c, rv = .slice A l.length c /\ BrsIn W (fun b => n0 <= b) A l := by
 obtain ⟨A, c, e, hp⟩ := h.out (KL.keeps keep_BrP _); refine ⟨A, c, e, fun i hi => ?_⟩; obtain ⟨g, a, ea, hg, hz, hc, hin⟩ := hp i hi; obtain ⟨_, xv, hx, hv⟩ := hin
 have hv' : a = brcs l[i].nm l[i].im xv := by injection hv
 subst hv'; exact ⟨g, xv, ea, hg, hx.mono fun b hb => by rcases hb with hb | hb; omega; exact hb, hc⟩
theorem BrsIn.nil (w : World) (S : Nat -> Prop) (A : Option Addr) : BrsIn w S A [] := fun i hi => absurd hi (by simp)
theorem BrsIn.keep {w w' : World} {S S' : Nat -> Prop} {A : Option Addr} {l : List Bd} (h : BrsIn w S A l) (hk : ∀ b, b < w.heap.size -> S b -> S' b /\ w'.heap[b]? = w.heap[b]?) : BrsIn w' S' A l := fun i hi => by
 obtain ⟨b, xv, e, hs, hx, hc⟩ := h i hi; have hz := hx.size; have hb : b < w.heap.size := World.block_lt_of_cell? _ ⟨b, i * 11 + 0, none⟩ ((hc 0 (by omega)).trans (Array.getElem?_eq_getElem (by simp; omega)))
 have h1 := hk b hb hs; exact ⟨b, xv, e, h1.1, hx.keep hk, fun q hq => (World.cell?_of_block h1.2).trans (hc q hq)⟩
abbrev ccs (k a : Int) (nm : ByteArray) (ps bs : Value) (tv vv : List Value) (tac : Bool) (ts cs : Value) : Array Value := (.int .i64 k :: .int .i64 a :: .string nm :: ps :: bs :: (tv ++ (vv ++ [.bool tac, ts, cs]))).toArray
def CmIn (W : World) (S : Nat -> Prop) (c : Cm) (v : Array Value) : Prop := ∃ (Ap : Option Addr) (np : Nat) (Ab : Option Addr) (nb : Nat) (At : Option Addr) (nt : Nat) (Ac : Option Addr) (nc : Nat) (tv vv : Array Value),
 v = ccs (c.kd : Nat) (c.at_ : Nat) c.nm (.slice Ap c.ps.length np) (.slice Ab c.bs.length nb) tv.toList vv.toList c.tac (.slice At c.tcs.length nt) (.slice Ac c.cts.length nc) /\
 SsIn W S Ap c.ps /\ BrsIn W S Ab c.bs /\ InX W S c.ty tv /\ InX W S c.vl vv /\ TcsIn W S At c.tcs /\ CtsIn W S Ac c.cts
theorem CmIn.keep {w w' : World} {S S' : Nat -> Prop} {c : Cm} {v : Array Value} (h : CmIn w S c v) (hk : ∀ b, b < w.heap.size -> S b -> S' b /\ w'.heap[b]? = w.heap[b]?) : CmIn w' S' c v := by
 obtain ⟨Ap, np, Ab, nb, At, nt, Ac, nc, tv, vv, e, h1, h2, h3, h4, h5, h6⟩ := h; exact ⟨Ap, np, Ab, nb, At, nt, Ac, nc, tv, vv, e, h1.keep hk, h2.keep hk, h3.keep hk, h4.keep hk, h5.keep hk, h6.keep hk⟩
theorem CmIn.size {w : World} {S : Nat -> Prop} {c : Cm} {v : Array Value} (h : CmIn w S c v) : v.size = 26 := by
 obtain ⟨Ap, np, Ab, nb, At, nt, Ac, nc, tv, vv, e, h1, h2, h3, h4, h5, h6⟩ := h; have := h3.size; have := h4.size; subst e
 simp
 omega
theorem CmIn.one {w : World} {S : Nat -> Prop} {c : Cm} {v : Array Value} (h : CmIn w S c v) : v.all (·.oneCell') = true := by
 obtain ⟨Ap, np, Ab, nb, At, nt, Ac, nc, tv, vv, e, h1, h2, h3, h4, h5, h6⟩ := h; have a1 := h3.one; have a2 := h4.one; subst e
 rw [<- Array.all_toList, List.all_cons, List.all_cons, List.all_cons, List.all_cons, List.all_cons, List.all_append, List.all_append, Array.all_toList, Array.all_toList, a1, a2]
 rfl
theorem CmIn.kind {w : World} {S : Nat -> Prop} {c : Cm} {v : Array Value} (h : CmIn w S c v) : v[0]? = some (.int .i64 (c.kd : Nat)) := by
 obtain ⟨Ap, np, Ab, nb, At, nt, Ac, nc, tv, vv, e, h1, h2, h3, h4, h5, h6⟩ := h; subst e
 rfl
theorem CmIn.start (w : World) (S : Nat -> Prop) (a : Nat) : CmIn w S (zeroC a) (ccs 0 (a : Nat) ⟨#[]⟩ nilV nilV (xcs 0 0 ⟨#[]⟩ false false false false nilV nilV).toList (xcs 0 0 ⟨#[]⟩ false false false false nilV nilV).toList false nilV nilV) :=
 ⟨none, 0, none, 0, none, 0, none, 0, _, _, rfl, SsIn.nil _ _ _, BrsIn.nil _ _ _, InX.of (LvsIn.nil _ _ _) (XsIn.nil _ _ _), InX.of (LvsIn.nil _ _ _) (XsIn.nil _ _ _), TcsIn.nil _ _ _, CtsIn.nil _ _ _⟩
section
variable {w : World} {S : Nat -> Prop} {c : Cm} {v : Array Value}
theorem CmIn.setKd (h : CmIn w S c v) (k : Nat) : CmIn w S { c with kd := k } (v.setIfInBounds 0 (.int .i64 (k : Nat))) := by
 obtain ⟨Ap, np, Ab, nb, At, nt, Ac, nc, tv, vv, e, h1, h2, h3, h4, h5, h6⟩ := h; exact ⟨Ap, np, Ab, nb, At, nt, Ac, nc, tv, vv, by subst e; rfl, h1, h2, h3, h4, h5, h6⟩
theorem CmIn.setNm (h : CmIn w S c v) (x : ByteArray) : CmIn w S { c with nm := x } (v.setIfInBounds 2 (.string x)) := by
 obtain ⟨Ap, np, Ab, nb, At, nt, Ac, nc, tv, vv, e, h1, h2, h3, h4, h5, h6⟩ := h; exact ⟨Ap, np, Ab, nb, At, nt, Ac, nc, tv, vv, by subst e; rfl, h1, h2, h3, h4, h5, h6⟩
theorem CmIn.setPs (h : CmIn w S c v) {A : Option Addr} {n : Nat} {l : List ByteArray} (hl : SsIn w S A l) : CmIn w S { c with ps := l } (v.setIfInBounds 3 (.slice A l.length n)) := by
 obtain ⟨Ap, np, Ab, nb, At, nt, Ac, nc, tv, vv, e, h1, h2, h3, h4, h5, h6⟩ := h; exact ⟨A, n, Ab, nb, At, nt, Ac, nc, tv, vv, by subst e; rfl, hl, h2, h3, h4, h5, h6⟩
theorem CmIn.setBs (h : CmIn w S c v) {A : Option Addr} {n : Nat} {l : List Bd} (hl : BrsIn w S A l) : CmIn w S { c with bs := l } (v.setIfInBounds 4 (.slice A l.length n)) := by
 obtain ⟨Ap, np, Ab, nb, At, nt, Ac, nc, tv, vv, e, h1, h2, h3, h4, h5, h6⟩ := h; exact ⟨Ap, np, A, n, At, nt, Ac, nc, tv, vv, by subst e; rfl, h1, hl, h3, h4, h5, h6⟩
theorem list_set_app {α : Type} (l r : List α) (i : Nat) (x : α) (n : Nat) (hl : l.length = n) : (l ++ r).set (n + i) x = l ++ r.set i x := by
 subst hl; rw [List.set_append_right _ _ (by omega)]
 congr 2
 omega
theorem ccs_set {k a : Int} {nm : ByteArray} {ps bs : Value} {tv vv : List Value} {tac : Bool} {ts cs : Value} (h1 : tv.length = 9) (h2 : vv.length = 9) (i : Nat) (x : Value) : (ccs k a nm ps bs tv vv tac ts cs).setIfInBounds (23 + i) x = (.int .i64 k :: .int .i64 a :: .string nm :: ps :: bs :: (tv ++ (vv ++ ([.bool tac, ts, cs].set i x)))).toArray := by
 apply Array.ext'
 simp only [Array.toList_setIfInBounds]
 rw [show 23 + i = (9 + (9 + i)) + 1 + 1 + 1 + 1 + 1 by omega]
 simp only [List.set_cons_succ]
 rw [list_set_app _ _ (9 + i) x 9 h1, list_set_app _ _ i x 9 h2]
theorem CmIn.setTac (h : CmIn w S c v) (b : Bool) : CmIn w S { c with tac := b } (v.setIfInBounds 23 (.bool b)) := by
 obtain ⟨Ap, np, Ab, nb, At, nt, Ac, nc, tv, vv, e, h1, h2, h3, h4, h5, h6⟩ := h; refine ⟨Ap, np, Ab, nb, At, nt, Ac, nc, tv, vv, ?_, h1, h2, h3, h4, h5, h6⟩; subst e
 rw [ccs_set (by simpa using h3.size) (by simpa using h4.size) 0]
 rfl
theorem CmIn.setTcs (h : CmIn w S c v) {A : Option Addr} {n : Nat} {l : List Tc} (hl : TcsIn w S A l) : CmIn w S { c with tcs := l } (v.setIfInBounds 24 (.slice A l.length n)) := by
 obtain ⟨Ap, np, Ab, nb, At, nt, Ac, nc, tv, vv, e, h1, h2, h3, h4, h5, h6⟩ := h; refine ⟨Ap, np, Ab, nb, A, n, Ac, nc, tv, vv, ?_, h1, h2, h3, h4, hl, h6⟩; subst e
 rw [ccs_set (by simpa using h3.size) (by simpa using h4.size) 1]
 rfl
theorem CmIn.setCts (h : CmIn w S c v) {A : Option Addr} {n : Nat} {l : List Ct} (hl : CtsIn w S A l) : CmIn w S { c with cts := l } (v.setIfInBounds 25 (.slice A l.length n)) := by
 obtain ⟨Ap, np, Ab, nb, At, nt, Ac, nc, tv, vv, e, h1, h2, h3, h4, h5, h6⟩ := h; refine ⟨Ap, np, Ab, nb, At, nt, A, n, tv, vv, ?_, h1, h2, h3, h4, h5, hl⟩; subst e
 rw [ccs_set (by simpa using h3.size) (by simpa using h4.size) 2]
 rfl
theorem wrote_toList : ∀ (l : List Value) (vs : Array Value) (o : Nat) (pre old suf : List Value), vs.toList = pre ++ (old ++ suf) -> pre.length = o -> old.length = l.length -> (wrote vs o l).toList = pre ++ (l ++ suf)
 | [], vs, o, pre, old, suf, h, _, hl => by
   have : old = [] := List.length_eq_zero_iff.1 (by simpa using hl); subst this; exact h
 | x :: l, vs, o, pre, [], suf, _, _, hl => by simp at hl
 | x :: l, vs, o, pre, y :: old, suf, h, ho, hl => by
   have := wrote_toList l (vs.setIfInBounds o x) (o + 1) (pre ++ [x]) old suf (by
    rw [Array.toList_setIfInBounds, h]; have := list_set_app pre ((y :: old) ++ suf) 0 x o ho; rw [Nat.add_zero] at this; rw [this]
    simp) (by simp [ho]) (by simpa using hl)
   simp only [wrote]
   rw [this]
   simp
theorem CmIn.setTy (h : CmIn w S c v) {x : Ex} {xv : Array Value} (hx : InX w S x xv) : CmIn w S { c with ty := x } (wrote v 5 xv.toList) := by
 obtain ⟨Ap, np, Ab, nb, At, nt, Ac, nc, tv, vv, e, h1, h2, h3, h4, h5, h6⟩ := h; refine ⟨Ap, np, Ab, nb, At, nt, Ac, nc, xv, vv, ?_, h1, h2, hx, h4, h5, h6⟩
 apply Array.ext'
 have h9 := h3.size; have h9' := hx.size
 rw [wrote_toList xv.toList v 5 [.int .i64 (c.kd : Nat), .int .i64 (c.at_ : Nat), .string c.nm, .slice Ap c.ps.length np, .slice Ab c.bs.length nb] tv.toList (vv.toList ++ [.bool c.tac, .slice At c.tcs.length nt, .slice Ac c.cts.length nc]) (by rw [e]; rfl) rfl (by simp [h9, h9'])]
 rfl
theorem CmIn.setVl (h : CmIn w S c v) {x : Ex} {xv : Array Value} (hx : InX w S x xv) : CmIn w S { c with vl := x } (wrote v 14 xv.toList) := by
 obtain ⟨Ap, np, Ab, nb, At, nt, Ac, nc, tv, vv, e, h1, h2, h3, h4, h5, h6⟩ := h; refine ⟨Ap, np, Ab, nb, At, nt, Ac, nc, tv, xv, ?_, h1, h2, h3, hx, h5, h6⟩
 apply Array.ext'
 have h9 := h4.size; have h8 := h3.size; have h9' := hx.size
 rw [wrote_toList xv.toList v 14 (.int .i64 (c.kd : Nat) :: .int .i64 (c.at_ : Nat) :: .string c.nm :: .slice Ap c.ps.length np :: .slice Ab c.bs.length nb :: tv.toList) vv.toList [.bool c.tac, .slice At c.tcs.length nt, .slice Ac c.cts.length nc] (by rw [e]; simp) (by simp [h8]) (by simp [h9, h9'])]
 simp
end
structure CmAt (W : World) (cb : Nat) (c : Cm) : Prop where
 ex : ∃ v, W.heap[cb]? = some (.cells v 63 (0, 0)) /\ CmIn W (fun b => cb < b) c v
section
variable {W W' : World} {cb : Nat} {c : Cm}
theorem CmAt.lt (h : CmAt W cb c) : cb < W.heap.size := by obtain ⟨v, h, _⟩ := h.ex; exact (Array.getElem?_eq_some_iff.1 h).1
theorem CmAt.keep (h : CmAt W cb c) (hk : ∀ b, b < W.heap.size -> cb <= b -> W'.heap[b]? = W.heap[b]?) : CmAt W' cb c := by
 have hl := h.lt; obtain ⟨v, hv, hc⟩ := h.ex; exact ⟨v, (hk cb hl (Nat.le_refl _)).trans hv, hc.keep fun b hb hs => ⟨hs, hk b hb (Nat.le_of_lt hs)⟩⟩
theorem CmAt.touched {rb : Nat} (h : CmAt W cb c) (hT : Touched W rb W') (hr : rb < cb) : CmAt W' cb c := h.keep fun b hb hs => hT.at hb (by omega)
theorem CmAt.set (h : CmAt W cb c) (i : Nat) (u : Value) {c' : Cm} (hc : ∀ v, CmIn W (fun b => cb < b) c v -> CmIn W (fun b => cb < b) c' (v.setIfInBounds i u)) : CmAt (W.setCell ⟨cb, i, none⟩ u) cb c' := by
 obtain ⟨v, hv, hv'⟩ := h.ex; exact ⟨_, heap_setCell_same W _ i _ _ u hv, (hc v hv').keep fun b _ hs => ⟨hs, Below.heap_setCell _ _ _ _ (by show b ≠ cb; have : cb < b := hs; omega)⟩⟩
theorem CmAt.sets (h : CmAt W cb c) (o : Nat) (l : List Value) {c' : Cm} (hc : ∀ v, CmIn W (fun b => cb < b) c v -> CmIn W (fun b => cb < b) c' (wrote v o l)) : CmAt (W.setCells cb o l) cb c' := by
 obtain ⟨v, hv, hv'⟩ := h.ex; exact ⟨_, heap_setCells l o v W hv, (hc v hv').keep fun b _ hs => ⟨hs, heap_setCells_ne (by have : cb < b := hs; omega) _ _ _⟩⟩
theorem CmAt.cell (h : CmAt W cb c) {i : Nat} (hi : i < 26) : ∃ u, W.cell? ⟨cb, i, none⟩ = some u := by
 obtain ⟨v, hv, hv'⟩ := h.ex; exact ⟨_, cell_of hv i (Array.getElem?_eq_getElem (by rw [hv'.size]; exact hi))⟩
theorem CmAt.kind (h : CmAt W cb c) : W.cell? ⟨cb, 0, none⟩ = some (.int .i64 (c.kd : Nat)) := by
 obtain ⟨v, hv, hv'⟩ := h.ex; exact cell_of hv 0 hv'.kind
theorem CmAt.frozen (h : CmAt W cb c) (i : Nat) : W.frozen? ⟨cb, i, none⟩ = false := by
 obtain ⟨v, hv, _⟩ := h.ex; exact frozen_of hv i
theorem CmAt.there (h : CmAt W cb c) {o m : Nat} (ho : o + m <= 26) : W.there cb o m := fun j hj => by
 obtain ⟨v, hv, hv'⟩ := h.ex; refine ⟨?_, frozen_of hv _⟩; rw [cell_of hv (o + j) (Array.getElem?_eq_getElem (by rw [hv'.size]; omega))]
 rfl
end
section
variable {n0 pb : Nat} {wb : Wk} {tg : Bool} {l : List UInt8} {B : Prop} {w0 : World} {tk : List ByteArray}
theorem step_pr {ops : Array Oper} {o : Oper} {a : Act} {w : World} {K : Act -> World -> Prop} {Q : Exit -> Act -> World -> Prop} {E : Prop} {args : Array Value} {f : FuncId}
 (hg : o.guard = none) (hrun : (execOp a.eval o).run Tryz.prog w = .ok (.enter f args) w) (hc : Calls Tryz.prog f args w fun e w' => PrR B n0 w0 pb wb l tg tk e w')
 (hth : ∀ (fb : Nat) (w' : World), Hid (B /\ Thr n0 w0 (.panicked [{ v := .iface 41 (.pointer (some ⟨fb, 0, none⟩)), recovered := false }]) w') -> Q (.panic [{ v := .iface 41 (.pointer (some ⟨fb, 0, none⟩)), recovered := false }]) a w')
 (hK : ∀ w' : World, Hid (Wr B n0 w0 pb wb l tg tk w') -> K (a.put o.dst (.tuple #[])) w') :
 if Region.wanted o (yielded ops a.tmps) = true then Oper.wp Tryz.prog o a w K Q else E := by
 have hw : Region.wanted o (yielded ops a.tmps) = true := by simp [Region.wanted, hg]
 rw [if_pos hw]; unfold Oper.wp; rw [hrun]; refine hc.mono ?_; intro e w' h
 rcases h with ⟨rfl, h⟩ | ⟨⟨fb, rfl⟩, h⟩
 . exact hK w' h
 . exact hth fb w' h
theorem Wr.ok {W : World} {p : Pc} (h : Wr B n0 w0 pb wb l tg tk W) (hp : p.Ok w0 n0) : p.Ok W n0 := hp.keep fun b hb => h.low.block b hb
theorem pctors_calls (tf : Ex -> List ByteArray) (cts : List Ct) {A : Option Addr} {c : Nat} (h8 : 8 < n0) (hT : Tb w0) (w : World) (h : Wr B n0 w0 pb wb l tg tk w) (hin : CtsIn w0 (fun b => b < n0) A cts) (hok : ∀ k ∈ cts, Sp k.ty (tf k.ty) /\ ExFit 1000000 k.ty /\ k.nm.size <= 100) (hlen : cts.length <= 1000000)
 (hB : B \/ ((∀ k ∈ cts, xw k.ty + 10 <= 33554432) /\ (l ++ tokT tg (tk ++ cts.flatMap (ctorK tf))).length < 8388608)) :
 Calls Tryz.prog 55 #[.pointer (some ⟨pb, 0, none⟩), .slice A cts.length c] w fun e w' => PrR B n0 w0 pb wb l tg (tk ++ cts.flatMap (ctorK tf)) e w' := by
 have H0 : Hid (Wr B n0 w0 pb wb l tg (tk ++ (cts.take 0).flatMap (ctorK tf)) w) := hide (by simpa using h); have HT := hide hT; have HI := hide hin; have HO := hide hok; have HB := hide hB; clear h hin hok hB hT
 go_enter Tryz.func55, Tryz.ntmps55
 go_wp2_with fail
 go_loopg [7] cts.length (fun g i wr => ∃ j : Nat, j + g = cts.length /\ i = .int .i64 (j : Nat) /\ Hid (Wr B n0 w0 pb wb l tg (tk ++ (cts.take j).flatMap (ctorK tf)) wr))
 case atStart => exact ⟨0, by omega, rfl, H0⟩
 case round =>
  clear H0; obtain ⟨j, hj, rfl, HW⟩ := hrel
  by_cases hg0 : gk = 0
  . subst hg0
    have hj' : j = cts.length := by omega
    subst hj'; have HZ : Hid (PrR B n0 w0 pb wb l tg (tk ++ cts.flatMap (ctorK tf)) (.returned (.tuple #[])) wr) := hide (.inl ⟨rfl, by have := HW.out; rw [List.take_length] at this; exact this⟩); clear HW hj
    go_wp2_with fail
    go_end0; exact HZ.out
  . obtain ⟨g', rfl⟩ : ∃ g', gk = g' + 1 := ⟨gk - 1, by omega⟩
    have hjl : j < cts.length := by omega
    obtain ⟨b, xv, rfl, hbn, hx, hc⟩ := HI.out j hjl; have hxz := hx.size; obtain ⟨hsp, hfit, hnm⟩ := HO.out _ (List.getElem_mem hjl); obtain ⟨k, hk⟩ : ∃ k, k = cts[j] := ⟨_, rfl⟩; rw [<- hk] at hx hc hsp hfit hnm
    have hXA : XAt w0 (fun b => b < n0) k.ty b (j * 11 + 2) := ⟨xv, hbn, hx, fun q hq => by
     have := hc (2 + q) (by omega); rw [<- Nat.add_assoc] at this; rw [this]; show (#[Value.string k.nm, .int .i64 (k.at_ : Nat)] ++ xv)[2 + q]? = xv[q]?; rw [Array.getElem?_append_right (by simp)]
     congr 1
     simp⟩
    have hn0 : w0.cell? ⟨b, j * 11, none⟩ = some (.string k.nm) := (hc 0 (by omega)).trans (by
     show (#[Value.string k.nm, .int .i64 (k.at_ : Nat)] ++ xv)[0]? = _; rw [Array.getElem?_append_left (by simp)]
     rfl)
    have hks : Hid ((cts.take (j + 1)).flatMap (ctorK tf) = (cts.take j).flatMap (ctorK tf) ++ ctorK tf k) := hide (by rw [List.take_succ_eq_append_getElem hjl, List.flatMap_append, hk]; simp)
    have HRoom : Hid (B \/ (wtS [Pc.tok sBar, Pc.tok k.nm, Pc.tok sColon, Pc.ex k.ty (tf k.ty) b (j * 11 + 2) 0] <= 33554432 /\ (l ++ tokT tg ((tk ++ (cts.take j).flatMap (ctorK tf)) ++ ctorK tf k)).length < 8388608)) := hide (HB.out.imp id fun ⟨h1, h2⟩ => by
     refine ⟨?_, ?_⟩
     . have := h1 k (by rw [hk]; exact List.getElem_mem hjl)
       show 1 + (1 + (1 + ((xw k.ty + 3 * 0) + 0))) <= _; omega
     . have e : tk ++ cts.flatMap (ctorK tf) = ((tk ++ (cts.take j).flatMap (ctorK tf)) ++ ctorK tf k) ++ (cts.drop (j + 1)).flatMap (ctorK tf) := by
        rw [List.append_assoc tk, <- hks.out, List.append_assoc tk, <- List.flatMap_append, List.take_append_drop]
       rw [e, tokT_room] at h2; omega)
    have HOk : Hid (∀ q ∈ [Pc.tok sBar, Pc.tok k.nm, Pc.tok sColon, Pc.ex k.ty (tf k.ty) b (j * 11 + 2) 0], q.Ok w0 n0) := hide (oks_cons (show sBar.size <= 100 by decide) (oks_cons hnm (oks_cons (show sColon.size <= 100 by decide) (oks_cons ⟨hXA, hsp, by omega, hfit⟩ oks_nil))))
    obtain ⟨q, hq⟩ : ∃ q, q = k.nm := ⟨_, rfl⟩; have HK : Hid ([Pc.tok sBar, Pc.tok k.nm, Pc.tok sColon, Pc.ex k.ty (tf k.ty) b (j * 11 + 2) 0].flatMap Pc.toks = ctorK tf k) := hide (by simp [Pc.toks, ctorK, brk])
    have KWc := kwc_word
    have KE : Hid (∀ W, Calls Tryz.prog 54 #[.pointer (some ⟨b, j * 11 + 2, none⟩), .int .i64 0] W fun e' w' => ∃ v, e' = .returned (.agg v) /\ (v = #[.string ⟨#[]⟩, .pointer (some ⟨b, j * 11 + 2, none⟩), .pointer none, .int .i64 0, .bool false, .int .i64 0] /\ Below W.heap.size W w')) := hide fun W => (exprIn_calls k.ty (tf k.ty) b (j * 11 + 2) 0 W).mono fun e w' ⟨h1, h2⟩ => ⟨_, h1, rfl, h2⟩
    have KP : Hid (∀ W, Below wr.heap.size wr W -> Calls Tryz.prog 49 #[.pointer (some ⟨pb, 0, none⟩), .slice (some ⟨W.heap.size, 0, none⟩) 4 4] (W.alloc (.cells #[.string sBar, .pointer none, .pointer none, .int .i64 0, .bool false, .int .i64 0, .string q, .pointer none, .pointer none, .int .i64 0, .bool false, .int .i64 0, .string sColon, .pointer none, .pointer none, .int .i64 0, .bool false, .int .i64 0, .string ⟨#[]⟩, .pointer (some ⟨b, j * 11 + 2, none⟩), .pointer none, .int .i64 0, .bool false, .int .i64 0] 106)) fun e w' => PrR B n0 w0 pb wb l tg (tk ++ (cts.take (j + 1)).flatMap (ctorK tf)) e w') := hide fun W hW => by
     have := HW.out.made (W := W) (c := 4) [Pc.tok sBar, Pc.tok k.nm, Pc.tok sColon, Pc.ex k.ty (tf k.ty) b (j * 11 + 2) 0] #[.string sBar, .pointer none, .pointer none, .int .i64 0, .bool false, .int .i64 0, .string q, .pointer none, .pointer none, .int .i64 0, .bool false, .int .i64 0, .string sColon, .pointer none, .pointer none, .int .i64 0, .bool false, .int .i64 0, .string ⟨#[]⟩, .pointer (some ⟨b, j * 11 + 2, none⟩), .pointer none, .int .i64 0, .bool false, .int .i64 0] (by rw [hq]; rfl) h8 HT.out HOk.out (by simp) hW (by rw [HK.out]; exact HRoom.out)
     rw [HK.out, List.append_assoc, <- hks.out] at this; exact this
    have HG : Hid (∀ W, Below wr.heap.size wr W -> W.cell? ⟨b, j * 11, none⟩ = some (.string q)) := hide fun W hW => by
     rw [hq]; exact cell_later hW ((World.cell?_of_block (a := ⟨b, j * 11, none⟩) (HW.out.low.block b hbn)).trans hn0)
    have hb : Hid (Below wr.heap.size wr wr.drew) := hide (Below.refl _ _).drew; have S1 := HG.out _ hb.out; clear hx hc hsp hfit hnm hXA hn0 HRoom HOk HK hks hq hk hxz
    go_wp2_with fail
    go_region_law (first
     | (first | (refine step_cop (f := 50) rfl ?_ (KWc.out sBar _) ?_; · (simp [go_sem]; done)) | (refine step_cop (f := 50) rfl ?_ (KWc.out q _) ?_; · (simp [go_sem]; done)) | (refine step_cop (f := 50) rfl ?_ (KWc.out sColon _) ?_; · (simp [go_sem]; done)) | (refine step_cop (f := 54) rfl ?_ (KE.out _) ?_; · (simp [go_sem]; done))
        rintro v w1 ⟨rfl, hq⟩; replace hb := hide (hb.out.trans (hq.mono hb.out.size)); have S1 := HG.out _ hb.out; clear hq)
     | (refine step_pr (f := 49) rfl ?_ (KP.out _ hb.out) ?_ ?_
        . simp [go_sem]; done
        . intro fb w9 h9
          exact ⟨rfl, .inr ⟨⟨fb, rfl⟩, h9⟩⟩
        intro w9 HW9))
    all_goals
     clear KP HG KWc KE hb HW
     go_wp2_with fail
     go_roundg g'
     case measure => omega
     case rel => exact ⟨j + 1, by omega, by go_num, HW9⟩
end
def tsg (i : Nat) : ByteArray := if i = 0 then wBy else sSemi
theorem tacsK_snoc (tf : Ex -> List ByteArray) (t : Tc) : ∀ (q : ByteArray) (l : List Tc), tacsK tf q (l ++ [t]) = tacsK tf q l ++ ((if l = [] then q else sSemi) :: tacK tf t)
 | q, [] => by simp [tacsK]
 | q, u :: l => by
   have h := tacsK_snoc tf t sSemi l; show (q :: tacK tf u) ++ tacsK tf sSemi (l ++ [t]) = ((q :: tacK tf u) ++ tacsK tf sSemi l) ++ _; rw [h, ite_self, if_neg (by simp), List.append_assoc]
section
variable {n0 pb : Nat} {wb : Wk} {tg : Bool} {l : List UInt8} {B : Prop} {w0 : World} {tk : List ByteArray}
theorem pproof_calls (tf : Ex -> List ByteArray) (tcs : List Tc) {A : Option Addr} {c : Nat} (h8 : 8 < n0) (hT : Tb w0) (w : World) (h : Wr B n0 w0 pb wb l tg tk w) (hlen : tcs.length <= 1000000)
 (hin : 0 < tcs.length -> ∃ b, A = some ⟨b, 0, none⟩)
 (KT : ∀ j (hj : j < tcs.length) (b : Nat) (tk' : List ByteArray) (W : World), A = some ⟨b, 0, none⟩ -> Wr B n0 w0 pb wb l tg tk' W -> (B \/ (l ++ tokT tg (tk' ++ tacK tf tcs[j])).length < 8388608) -> Calls Tryz.prog 79 #[.pointer (some ⟨pb, 0, none⟩), .pointer (some ⟨b, j * 5, none⟩)] W fun e w' => PrR B n0 w0 pb wb l tg (tk' ++ tacK tf tcs[j]) e w')
 (hB : B \/ (l ++ tokT tg (tk ++ tacsK tf wBy tcs)).length < 8388608) :
 Calls Tryz.prog 56 #[.pointer (some ⟨pb, 0, none⟩), .slice A tcs.length c] w fun e w' => PrR B n0 w0 pb wb l tg (tk ++ tacsK tf wBy tcs) e w' := by
 have H0 : Hid (Wr B n0 w0 pb wb l tg (tk ++ tacsK tf wBy (tcs.take 0)) w) := hide (by simpa [tacsK] using h); have HT := hide hT; have HI := hide hin; have HKT := hide KT; have HB := hide hB; clear h hin hB hT KT
 go_enter Tryz.func56, Tryz.ntmps56
 go_wp2_with fail
 go_loopg [4, 8] tcs.length (fun g sv i wr => ∃ j : Nat, j + g = tcs.length /\ sv = .string (tsg j) /\ i = .int .i64 (j : Nat) /\ Hid (Wr B n0 w0 pb wb l tg (tk ++ tacsK tf wBy (tcs.take j)) wr))
 case atStart => exact ⟨0, by omega, rfl, rfl, H0⟩
 case round =>
  clear H0; obtain ⟨j, hj, rfl, rfl, HW⟩ := hrel
  by_cases hg0 : gk = 0
  . subst hg0
    have hj' : j = tcs.length := by omega
    subst hj'; have HZ : Hid (PrR B n0 w0 pb wb l tg (tk ++ tacsK tf wBy tcs) (.returned (.tuple #[])) wr) := hide (.inl ⟨rfl, by have := HW.out; rw [List.take_length] at this; exact this⟩); clear HW hj
    go_wp2_with fail
    go_end0; exact HZ.out
  . obtain ⟨g', rfl⟩ : ∃ g', gk = g' + 1 := ⟨gk - 1, by omega⟩
    have hjl : j < tcs.length := by omega
    obtain ⟨b, rfl⟩ := HI.out (by omega)
    have hemp : tcs.take j = [] ↔ j = 0 := by
     constructor
     . intro e
       have := congrArg List.length e; rw [List.length_take] at this
       simp only [List.length_nil] at this
       omega
     . rintro rfl
       rfl
    have hks : Hid (tacsK tf wBy (tcs.take (j + 1)) = tacsK tf wBy (tcs.take j) ++ (tsg j :: tacK tf tcs[j])) := hide (by
     rw [List.take_succ_eq_append_getElem hjl, tacsK_snoc]; unfold tsg
     by_cases h0 : j = 0
     . rw [if_pos (hemp.2 h0), if_pos h0]
     . rw [if_neg (fun e => h0 (hemp.1 e)), if_neg h0])
    have htl : ∃ rest, tacsK tf wBy tcs = tacsK tf wBy (tcs.take (j + 1)) ++ rest := by
     have : ∀ (q : ByteArray) (a r : List Tc), ∃ rest, tacsK tf q (a ++ r) = tacsK tf q a ++ rest := fun q a => by
      induction a generalizing q with
      | nil => intro r; exact ⟨_, rfl⟩
      | cons x a ih =>
        intro r; obtain ⟨rest, e⟩ := ih sSemi r; exact ⟨rest, by show (q :: tacK tf x) ++ tacsK tf sSemi (a ++ r) = ((q :: tacK tf x) ++ tacsK tf sSemi a) ++ rest; rw [e]; simp⟩
     obtain ⟨rest, e⟩ := this wBy (tcs.take (j + 1)) (tcs.drop (j + 1)); rw [List.take_append_drop] at e; exact ⟨rest, e⟩
    have HR2 : Hid (B \/ (l ++ tokT tg (((tk ++ tacsK tf wBy (tcs.take j)) ++ [tsg j]) ++ tacK tf tcs[j])).length < 8388608) := hide (HB.out.imp id fun h2 => by
     obtain ⟨rest, e⟩ := htl; have e2 : tk ++ tacsK tf wBy tcs = (((tk ++ tacsK tf wBy (tcs.take j)) ++ [tsg j]) ++ tacK tf tcs[j]) ++ rest := by rw [e, hks.out]; simp
     rw [e2, tokT_room] at h2; omega)
    have HR1 : Hid (B \/ (wtS [Pc.tok (tsg j)] <= 33554432 /\ (l ++ tokT tg ((tk ++ tacsK tf wBy (tcs.take j)) ++ [tsg j])).length < 8388608)) := hide (HR2.out.imp id fun h2 => by
     rw [tokT_room] at h2; exact ⟨show 1 + 0 <= 33554432 by decide, by omega⟩)
    have HK2 : Hid ((tk ++ tacsK tf wBy (tcs.take j)) ++ [tsg j] ++ tacK tf tcs[j] = tk ++ tacsK tf wBy (tcs.take (j + 1))) := hide (by rw [hks.out]; simp)
    have hs : (tsg j).size <= 100 := by unfold tsg; split <;> decide
    have HS1 : Hid (tsg (j + 1) = sSemi) := hide rfl; have KTj := hide (HKT.out j hjl b ((tk ++ tacsK tf wBy (tcs.take j)) ++ [tsg j])); generalize tsg j = sg at *
    have KW : Hid (Calls Tryz.prog 50 #[.string sg] wr fun e w' => e = .returned (.agg #[.string sg, .pointer none, .pointer none, .int .i64 0, .bool false, .int .i64 0]) /\ Below wr.heap.size wr w') := hide (word_calls sg wr)
    clear hks htl hemp
    go_wp2_with (go_at_call 50; refine KW.out.mono ?_)
    intro r w2 h2 hb2; subst h2
    have KP := hide (HW.out.made (c := 1) [Pc.tok sg] #[.string sg, .pointer none, .pointer none, .int .i64 0, .bool false, .int .i64 0] rfl h8 HT.out (oks_cons (show sg.size <= 100 from hs) oks_nil) (by simp) hb2 HR1.out)
    clear KW hb2
    go_wp2_with (go_at_call 49; refine KP.out.mono ?_)
    intro r w3 h3; clear KP
    rcases h3 with ⟨rfl, HW3⟩ | ⟨⟨fb, rfl⟩, HF⟩
    rotate_left
    . go_wp2_with fail
      exact ⟨rfl, .inr ⟨⟨fb, rfl⟩, HF⟩⟩
    have KT3 := hide (KTj.out w3 (by first | trivial | rfl) HW3.out HR2.out); rw [HK2.out] at KT3; clear KTj HW HW3 HR1 HR2
    go_wp2_with (go_at_call 79; refine KT3.out.mono ?_)
    intro r w4 h4; clear KT3
    rcases h4 with ⟨rfl, HW4⟩ | ⟨⟨fb, rfl⟩, HF⟩
    rotate_left
    . go_wp2_with fail
      exact ⟨rfl, .inr ⟨⟨fb, rfl⟩, HF⟩⟩
    go_wp2_with fail
    go_roundg g'
    case measure => omega
    case rel => exact ⟨j + 1, by omega, by rw [HS1.out], by go_num, HW4⟩
end
section
variable {n0 pb : Nat} {wb : Wk} {l : List UInt8} {B : Prop} {w0 : World}
def WrL (B : Prop) (n0 : Nat) (w0 : World) (pb : Nat) (wb : Wk) (l t : List UInt8) (W : World) : Prop :=
 ∃ l', PS W n0 pb wb l' true [] /\ Below n0 w0 W /\ l.length <= l'.length /\ (B \/ l'.length < 8388608) /\ (l'.length < 8388608 -> l' = l ++ t)
def PcR (B : Prop) (n0 : Nat) (w0 : World) (pb : Nat) (wb : Wk) (l t : List UInt8) (e : Ending) (W : World) : Prop := (e = .returned (.tuple #[]) /\ Hid (WrL B n0 w0 pb wb l t W)) \/ ((∃ fb, e = .panicked [{ v := .iface 41 (.pointer (some ⟨fb, 0, none⟩)), recovered := false }]) /\ Hid (B /\ Thr n0 w0 e W))
def linesK (tf : Ex -> List ByteArray) (cs : List Cm) : List UInt8 := cs.flatMap fun c => tokT true (comK tf c) ++ [10]
theorem pcommands_calls (tf : Ex -> List ByteArray) (cs : List Cm) {A : Option Addr} {c : Nat} (w : World) (h : WrL B n0 w0 pb wb l [] w) (hlen : cs.length <= 1000000)
 (hin : 0 < cs.length -> ∃ b, A = some ⟨b, 0, none⟩)
 (KC : ∀ j (hj : j < cs.length) (b : Nat) (t : List UInt8) (W : World), A = some ⟨b, 0, none⟩ -> WrL B n0 w0 pb wb l t W -> (B \/ (l ++ (t ++ (tokT true (comK tf cs[j]) ++ [10]))).length < 8388608) -> Calls Tryz.prog 33 #[.pointer (some ⟨pb, 0, none⟩), .pointer (some ⟨b, j * 26, none⟩)] W fun e w' => PcR B n0 w0 pb wb l (t ++ (tokT true (comK tf cs[j]) ++ [10])) e w')
 (hB : B \/ (l ++ linesK tf cs).length < 8388608) :
 Calls Tryz.prog 21 #[.pointer (some ⟨pb, 0, none⟩), .slice A cs.length c] w fun e w' => PcR B n0 w0 pb wb l (linesK tf cs) e w' := by
 have H0 : Hid (WrL B n0 w0 pb wb l (linesK tf (cs.take 0)) w) := hide h; have HI := hide hin; have HKC := hide KC; have HB := hide hB; clear h hin hB KC
 go_enter Tryz.func21, Tryz.ntmps21
 go_wp2_with fail
 go_loopg [7] cs.length (fun g i wr => ∃ j : Nat, j + g = cs.length /\ i = .int .i64 (j : Nat) /\ Hid (WrL B n0 w0 pb wb l (linesK tf (cs.take j)) wr))
 case atStart => exact ⟨0, by omega, rfl, H0⟩
 case round =>
  clear H0; obtain ⟨j, hj, rfl, HW⟩ := hrel
  by_cases hg0 : gk = 0
  . subst hg0
    have hj' : j = cs.length := by omega
    subst hj'; have HZ : Hid (PcR B n0 w0 pb wb l (linesK tf cs) (.returned (.tuple #[])) wr) := hide (.inl ⟨rfl, by have := HW.out; rw [List.take_length] at this; exact this⟩); clear HW hj
    go_wp2_with fail
    go_end0; exact HZ.out
  . obtain ⟨g', rfl⟩ : ∃ g', gk = g' + 1 := ⟨gk - 1, by omega⟩
    have hjl : j < cs.length := by omega
    obtain ⟨b, rfl⟩ := HI.out (by omega)
    have hks : Hid (linesK tf (cs.take (j + 1)) = linesK tf (cs.take j) ++ (tokT true (comK tf cs[j]) ++ [10])) := hide (by
     unfold linesK; rw [List.take_succ_eq_append_getElem hjl, List.flatMap_append]
     simp)
    have HR : Hid (B \/ (l ++ (linesK tf (cs.take j) ++ (tokT true (comK tf cs[j]) ++ [10]))).length < 8388608) := hide (HB.out.imp id fun h2 => by
     have e : linesK tf cs = linesK tf (cs.take (j + 1)) ++ linesK tf (cs.drop (j + 1)) := by
      unfold linesK; rw [<- List.flatMap_append, List.take_append_drop]
     rw [e, hks.out, <- List.append_assoc, List.length_append] at h2; omega)
    have K := hide (HKC.out j hjl b (linesK tf (cs.take j)) wr rfl HW.out HR.out); rw [<- hks.out] at K; clear HW HR hks
    go_wp2_with (go_at_call 33; refine K.out.mono ?_)
    intro r w4 h4; clear K
    rcases h4 with ⟨rfl, HW4⟩ | ⟨⟨fb, rfl⟩, HF⟩
    rotate_left
    . go_wp2_with fail
      exact ⟨rfl, .inr ⟨⟨fb, rfl⟩, HF⟩⟩
    go_wp2_with fail
    go_roundg g'
    case measure => omega
    case rel => exact ⟨j + 1, by omega, by go_num, HW4⟩
end
end Go.Proofs.YtockffblncdikaaGreatDoor
