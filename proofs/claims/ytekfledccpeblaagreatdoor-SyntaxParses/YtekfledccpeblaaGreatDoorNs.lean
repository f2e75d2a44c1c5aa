/- The contracts of the reader's arrow and let. -/
import Derived.Test.YtekfledccpeblaaGreatDoorEy

namespace Go.Proofs.YtekfledccpeblaaGreatDoor
open Go.RowKit

theorem step_made {ops : Array Oper} {o : Oper} {a : Act} {w : World} {K : Act → World → Prop} {Q : Exit → Act → World → Prop} {E : Prop} {args : Array Value} {f : FuncId} {S : Nat → Prop} {kd at_ : Nat} {nm : ByteArray} {xs : List Ex}
    (hg : o.guard = none) (hrun : (execOp a.eval o).run Tryz.prog w = .ok (.enter f args) w) (hc : Calls Tryz.prog f args w fun e w' => MadeX w S kd at_ nm xs e w')
    (hK : ∀ (eb : Nat) (w' : World), (w.heap.size ≤ eb ∧ XP w' (fun b => S b ∨ w.heap.size ≤ b) eb (.node kd at_ nm false false false false [] xs) ∧ Below w.heap.size w w') → K (a.put o.dst (.pointer (some ⟨eb, 0, none⟩))) w') :
    if Region.wanted o (yielded ops a.tmps) = true then Oper.wp Tryz.prog o a w K Q else E :=
  step_ptr hg hrun (hc.mono fun e w' h => by obtain ⟨eb, he, h1, h2, h3⟩ := h.xp; exact ⟨eb, he, h1, h2, h3⟩) hK
theorem three_ptrs {w : World} {a b c : Nat} : ∀ i, i < 3 → (w.alloc (.cells #[.pointer (some ⟨a, 0, none⟩), .pointer (some ⟨b, 0, none⟩), .pointer (some ⟨c, 0, none⟩)] 104)).cell? ⟨w.heap.size, i, none⟩ = some (.pointer (some ⟨if i = 0 then a else if i = 1 then b else c, 0, none⟩)) := by
  intro i hi
  have h := heap_alloc_new w (.cells #[.pointer (some ⟨a, 0, none⟩), .pointer (some ⟨b, 0, none⟩), .pointer (some ⟨c, 0, none⟩)] 104)
  match i, hi with
  | 0, _ => exact cell_of h 0 rfl
  | 1, _ => exact cell_of h 1 rfl
  | 2, _ => exact cell_of h 2 rfl

/-- An equation, and what may stand behind an arrow. -/
def arrowF (s : ByteArray) (n : Nat) (E : FS → Ex × FS) (st : FS) : Ex × FS :=
  if (equalF s n E st).2.is sArrow = true then (.node 6 (equalF s n E st).2.t.at_ ⟨#[]⟩ false false false false [] [(equalF s n E st).1, (E ((equalF s n E st).2.step s)).1], (E ((equalF s n E st).2.step s)).2) else equalF s n E st

section
variable {rb : Nat} {mv : Value} {s : ByteArray}
theorem equal_left {n : Nat} {st : FS} (ho : st.Ok s) (hc : st.code = 0) (h : (equalF s n (exprN s n) st).2.code = 0) : (equalF s n (exprN s n) st).2.left s < st.left s := by
  have hE := exprN_fwd (s := s) n
  have hd := applyF_fwd (n := n) hE st ho
  have hc1 : (applyF s n (exprN s n) st).2.code = 0 := by
    by_cases h1 : (applyF s n (exprN s n) st).2.code = 0
    · exact h1
    · unfold equalF at h
      simp only at h
      rw [if_neg (by rw [is_bad h1]; simp)] at h
      exact h
  have hl := apply_left ho hc hc1
  unfold equalF
  simp only
  split
  · exact Nat.lt_of_le_of_lt (((applyF_fwd (n := n) hE).dn (Dn.refl hd.ok).step).left) hl
  · exact hl

set_option maxRecDepth 100000 in
set_option maxHeartbeats 8000000 in
theorem arrow_calls (n : Nat) (hn : n ≤ 1000000) (ih : ExprC rb mv s n) (st : FS) (w : World) (h : Rdy w rb mv s st) (hl : st.left s ≤ n) :
    Calls Tryz.prog 66 #[.pointer (some ⟨rb, 0, none⟩)] w fun e w' => RX w rb mv s (arrowF s n (exprN s n) st).2 (ExR w (arrowF s n (exprN s n) st).1) e w' := by
  have H := hide h
  have hlt := h.lt
  have hc := h.code
  have KA := hide (equal_calls n hn ih st w h hl)
  have hE := exprN_fwd (s := s) n
  have hd := equalF_fwd (n := n) hE st h.ok
  have hok1 := hd.ok
  have hle1 : (equalF s n (exprN s n) st).2.code = 0 → (equalF s n (exprN s n) st).2.left s < n := fun h0 => Nat.lt_of_lt_of_le (equal_left h.ok hc h0) hl
  obtain ⟨fin, hfin⟩ : ∃ fin, fin = arrowF s n (exprN s n) st := ⟨_, rfl⟩
  have HFin : Hid (fin = if (equalF s n (exprN s n) st).2.is sArrow = true then (.node 6 (equalF s n (exprN s n) st).2.t.at_ ⟨#[]⟩ false false false false [] [(equalF s n (exprN s n) st).1, (exprN s n ((equalF s n (exprN s n) st).2.step s)).1], (exprN s n ((equalF s n (exprN s n) st).2.step s)).2) else equalF s n (exprN s n) st) := hfin
  rw [← hfin]
  clear h hfin hd hl
  generalize hap : equalF s n (exprN s n) st = ap at *
  obtain ⟨x1, st1⟩ := ap
  simp only at HFin KA hok1 hle1
  clear hap
  go_enter Tryz.func66, Tryz.ntmps66
  go_wp2_with (go_at_call 86; refine KA.out.mono ?_)
  intro e W1 h1
  rcases h1 with ⟨hc1, ⟨e1, rfl, hl1, hx1⟩, hR1, hT1⟩ | ⟨hc1, hth⟩
  rotate_left
  · have HF : Hid (RX w rb mv s fin.2 (ExR w fin.1) e W1) := RX.bad hc1 hth (Touched.refl _ _) (by rw [HFin.out, if_neg (by rw [hc1.is]; simp)]; exact Bdn.refl _)
    obtain ⟨fb, rfl, -⟩ := hth
    go_wp2_with fail
    exact ⟨rfl, HF.out⟩
  obtain ⟨k, t, q1, q2, q3, KI⟩ := hR1.isq sArrow
  have HKI := hide KI
  have HX1 := hide hx1
  have HT1 := hide hT1
  have HR1 := hide hR1
  have hle2 := hle1 hc1
  clear hx1 hR1 hT1 KA KI hle1
  by_cases hq : st1.is sArrow = true
  · have hkd := (FS.is_kd hq).2.1
    have hlef := FS.step_left hok1 hc1 (by omega) (by omega)
    have HFi : Hid (fin = (.node 6 st1.t.at_ ⟨#[]⟩ false false false false [] [x1, (exprN s n (st1.step s)).1], (exprN s n (st1.step s)).2)) := hide (by rw [HFin.out, if_pos hq])
    rw [hq] at HKI
    have HTk : Hid (∀ W, Rdy W rb mv s st1 → Calls Tryz.prog 60 #[.pointer (some ⟨rb, 0, none⟩)] W fun e w' => e = .returned (.agg #[.int .i64 3, .int .i64 (st1.t.at_ : Nat), .string st1.t.t]) ∧ Rdy w' rb mv s (st1.step s) ∧ Touched W rb w') := fun W hW => by
      have := takeQ hW (by omega)
      rw [hkd] at this
      exact this
    have HAp : Hid (∀ W, Rdy W rb mv s (st1.step s) → Calls Tryz.prog 41 #[.pointer (some ⟨rb, 0, none⟩)] W fun e w' => RX W rb mv s (exprN s n (st1.step s)).2 (ExR W (exprN s n (st1.step s)).1) e w') := fun W hW => ih _ W hW (by omega)
    clear HFin hq hkd hlef hok1 hle2 ih
    generalize (exprN s n (st1.step s)).1 = x2 at *
    generalize (exprN s n (st1.step s)).2 = st2 at *
    generalize st1.step s = sta at *
    generalize st1.t.at_ = ta at *
    generalize st1.t.t = tt at *
    go_wp2_with (go_at_call 82; refine HKI.out.mono ?_)
    first | (intro e W2 he hb2; subst he) | (rintro e W2 ⟨rfl, hb2⟩)
    have KT := hide (HTk.out W2 (HR1.out.later hb2))
    have HT2 := hide (HT1.out.later hb2)
    have HX2 := hide (HX1.out.later hb2)
    clear hb2 HKI HTk HR1 HT1 HX1
    go_wp2_with (go_at_call 60; refine KT.out.mono ?_)
    rintro e W3 ⟨rfl, hR3, hT3⟩
    have hr3 := hR3.lt
    have HX3 := hide ((HX2.out.rest hT3 hlt hl1).later ((Below.refl W3.heap.size W3).alloc (Nat.le_refl _) (.cells #[.int .i64 3, .int .i64 (ta : Nat), .string tt] 74)))
    have HT3 := hide ((HT2.out.trans hT3).trans (Touched.alloc W3 rb (.cells #[.int .i64 3, .int .i64 (ta : Nat), .string tt] 74)))
    have KAp := hide (HAp.out _ ((hR3.alloc (.cells #[.int .i64 3, .int .i64 (ta : Nat), .string tt] 74)).drew))
    have hz3 := (HT2.out.trans hT3).size
    have hbox := heap_alloc_new W3 (.cells #[.int .i64 3, .int .i64 (ta : Nat), .string tt] 74)
    have t1 : (W3.alloc (.cells #[.int .i64 3, .int .i64 (ta : Nat), .string tt] 74)).cell? ⟨W3.heap.size, 1, none⟩ = some (.int .i64 (ta : Nat)) := cell_of hbox 1 rfl
    have hsz : W3.heap.size < (W3.alloc (.cells #[.int .i64 3, .int .i64 (ta : Nat), .string tt] 74)).heap.size := by simp
    clear hR3 hT3 KT HX2 HT2 HAp
    go_wp2_with fail
    generalize (W3.alloc (.cells #[.int .i64 3, .int .i64 (ta : Nat), .string tt] 74)) = W4 at *
    go_region_law (first
      | (refine step_rx (f := 41) rfl ?_ KAp.out ExR.ret ?_ ?_
         · simp [go_sem]
         · intro fb w5 hc5 h5
           exact ⟨rfl, RX.bad hc5 h5 HT3.out.drew' (by rw [HFi.out]; exact Bdn.refl _)⟩
         intro v w5 hc5 hG5 hR5 hT5
         obtain ⟨e5, he5, hl5, hx5⟩ := hG5
         injection he5 with he5
         subst he5
         have hbx5 := (hT5.at (k := W3.heap.size) hsz (by omega)).trans hbox
         have t5 : w5.cell? ⟨W3.heap.size, 1, none⟩ = some (.int .i64 (ta : Nat)) := cell_of hbx5 1 rfl
         have hz5 := hT5.size
         have hzd : W4.drew.heap.size = W4.heap.size := rfl
         have hwl5 : W3.heap.size < w5.heap.size := by omega
         have hzw : w.heap.size ≤ W4.heap.size := by omega
         have hx1' : XP w5 (fun b => w.heap.size ≤ b) e1 x1 := (HX3.out.later (Below.refl _ _).drew).rest hT5 hlt hl1
         have hB6 : Below w5.heap.size w5 (w5.alloc (.cells #[.pointer (some ⟨e1, 0, none⟩), .pointer (some ⟨e5, 0, none⟩)] 104)) := (Below.refl _ _).alloc (Nat.le_refl _) _
         have KQ := hide (made_calls 6 ta ⟨#[]⟩ [x1, x2] (fun i => if i = 0 then e1 else e5) (some ⟨w5.heap.size, 0, none⟩) 2 (w5.alloc (.cells #[.pointer (some ⟨e1, 0, none⟩), .pointer (some ⟨e5, 0, none⟩)] 104)) (by simp) (fun i hi => ⟨w5.heap.size, rfl, two_ptrs i hi⟩) (fun b => w.heap.size ≤ b) (fun i hi => by
           match i, hi with
           | 0, _ => exact hx1'.later hB6
           | 1, _ => exact (hx5.wide hzw).later hB6)))
      | (refine step_made (f := 85) rfl ?_ KQ.out ?_
         · simp [go_sem]
         intro e6 w6 h6))
    all_goals
      obtain ⟨hl6, hx6, hB7⟩ := h6
      have hB8 := hB6.trans (hB7.mono hB6.size)
      have HF : Hid (RX w rb mv s fin.2 (ExR w fin.1) (.returned (.pointer (some ⟨e6, 0, none⟩))) w6) := by
        rw [HFi.out]
        exact .inl ⟨hc5, ⟨e6, rfl, by simp at hl6; omega, hx6.keep rfl fun b _ hs => ⟨by rcases hs with hs | hs; exact hs; simp at hs; omega, rfl⟩⟩, hR5.later hB8, (HT3.out.drew'.trans hT5).later hB8⟩
      clear hx6 hB7 hB8 hB6 hR5 hT5 KQ KAp hx5 hx1'
      go_wp2_with fail
      go_ret
      exact HF.out
  · have hq' : st1.is sArrow = false := by simpa using hq
    have HFi : Hid (fin = (x1, st1)) := hide (by rw [HFin.out, if_neg hq])
    rw [hq'] at HKI
    clear HFin hq hq' hok1 hle2 ih
    go_wp2_with (go_at_call 82; refine HKI.out.mono ?_)
    first | (intro e W2 he hb2; subst he) | (rintro e W2 ⟨rfl, hb2⟩)
    have HF : Hid (RX w rb mv s fin.2 (ExR w fin.1) (.returned (.pointer (some ⟨e1, 0, none⟩))) W2) := by
      rw [HFi.out]
      exact .inl ⟨hc1, ⟨e1, rfl, hl1, HX1.out.later hb2⟩, HR1.out.later hb2, HT1.out.later hb2⟩
    clear hb2 HKI
    go_wp2_with fail
    go_ret
    exact HF.out
end
end Go.Proofs.YtekfledccpeblaaGreatDoor

/- The contract of the reader's let. -/
namespace Go.Proofs.YtekfledccpeblaaGreatDoor
open Go.RowKit

section
variable {rb : Nat} {mv : Value} {s : ByteArray}
set_option maxRecDepth 100000 in
set_option maxHeartbeats 16000000 in
theorem let_calls (n : Nat) (ih : ExprC rb mv s n) (st : FS) (w : World) (h : Rdy w rb mv s st) (hl : st.left s < n) :
    Calls Tryz.prog 65 #[.pointer (some ⟨rb, 0, none⟩)] w fun e w' => RX w rb mv s (letX s (exprN s n) st).2 (ExR w (letX s (exprN s n) st).1) e w' := by
  have H := hide h
  have hlt := h.lt
  have hc := h.code
  have hE := exprN_fwd (s := s) n
  have KN := hide (nameQ h)
  obtain ⟨fin, hfin⟩ : ∃ fin, fin = letX s (exprN s n) st := ⟨_, rfl⟩
  rw [← hfin]
  have d1 : Dn s st ((st.name s).2.must s sColon) := (Dn.refl h.ok).name.must
  have d2 := hE.dn d1
  have d3 := d2.must (q := sBe)
  have d4 := hE.dn d3
  have d5 := d4.must (q := wIn)
  have HX1 : Hid (∀ W, Rdy W rb mv s ((st.name s).2.must s sColon) → Calls Tryz.prog 41 #[.pointer (some ⟨rb, 0, none⟩)] W fun e w' => RX W rb mv s (exprN s n ((st.name s).2.must s sColon)).2 (ExR W (exprN s n ((st.name s).2.must s sColon)).1) e w') := fun W hW => ih _ W hW (Nat.lt_of_le_of_lt d1.left hl)
  have HX2 : Hid (∀ W, Rdy W rb mv s ((exprN s n ((st.name s).2.must s sColon)).2.must s sBe) → Calls Tryz.prog 41 #[.pointer (some ⟨rb, 0, none⟩)] W fun e w' => RX W rb mv s (exprN s n ((exprN s n ((st.name s).2.must s sColon)).2.must s sBe)).2 (ExR W (exprN s n ((exprN s n ((st.name s).2.must s sColon)).2.must s sBe)).1) e w') := fun W hW => ih _ W hW (Nat.lt_of_le_of_lt d3.left hl)
  have HX3 : Hid (∀ W, Rdy W rb mv s ((exprN s n ((exprN s n ((st.name s).2.must s sColon)).2.must s sBe)).2.must s wIn) → Calls Tryz.prog 41 #[.pointer (some ⟨rb, 0, none⟩)] W fun e w' => RX W rb mv s (exprN s n ((exprN s n ((exprN s n ((st.name s).2.must s sColon)).2.must s sBe)).2.must s wIn)).2 (ExR W (exprN s n ((exprN s n ((exprN s n ((st.name s).2.must s sColon)).2.must s sBe)).2.must s wIn)).1) e w') := fun W hW => ih _ W hW (Nat.lt_of_le_of_lt d5.left hl)
  have HFi : Hid (fin = (.node 7 st.t.at_ (st.name s).1 false false false false [] [(exprN s n ((st.name s).2.must s sColon)).1, (exprN s n ((exprN s n ((st.name s).2.must s sColon)).2.must s sBe)).1, (exprN s n ((exprN s n ((exprN s n ((st.name s).2.must s sColon)).2.must s sBe)).2.must s wIn)).1], (exprN s n ((exprN s n ((exprN s n ((st.name s).2.must s sColon)).2.must s sBe)).2.must s wIn)).2)) := hfin
  have B6 : ∀ x, Bdn x (exprN s n x).2 := exprN_bfw n
  have HB5 : Hid (Bdn ((exprN s n ((exprN s n ((st.name s).2.must s sColon)).2.must s sBe)).2.must s wIn) (exprN s n ((exprN s n ((exprN s n ((st.name s).2.must s sColon)).2.must s sBe)).2.must s wIn)).2) := B6 _
  have HB4 : Hid (Bdn (exprN s n ((exprN s n ((st.name s).2.must s sColon)).2.must s sBe)).2 (exprN s n ((exprN s n ((exprN s n ((st.name s).2.must s sColon)).2.must s sBe)).2.must s wIn)).2) := (bdn_must (s := s) _ _).trans (B6 _)
  have HB3 : Hid (Bdn ((exprN s n ((st.name s).2.must s sColon)).2.must s sBe) (exprN s n ((exprN s n ((exprN s n ((st.name s).2.must s sColon)).2.must s sBe)).2.must s wIn)).2) := (B6 _).trans ((bdn_must (s := s) _ _).trans (B6 _))
  have HB2 : Hid (Bdn (exprN s n ((st.name s).2.must s sColon)).2 (exprN s n ((exprN s n ((exprN s n ((st.name s).2.must s sColon)).2.must s sBe)).2.must s wIn)).2) := (bdn_must (s := s) _ _).trans ((B6 _).trans ((bdn_must (s := s) _ _).trans (B6 _)))
  have HB1 : Hid (Bdn ((st.name s).2.must s sColon) (exprN s n ((exprN s n ((exprN s n ((st.name s).2.must s sColon)).2.must s sBe)).2.must s wIn)).2) := (B6 _).trans ((bdn_must (s := s) _ _).trans ((B6 _).trans ((bdn_must (s := s) _ _).trans (B6 _))))
  have HB0 : Hid (Bdn (st.name s).2 (exprN s n ((exprN s n ((exprN s n ((st.name s).2.must s sColon)).2.must s sBe)).2.must s wIn)).2) := (bdn_must (s := s) _ _).trans ((B6 _).trans ((bdn_must (s := s) _ _).trans ((B6 _).trans ((bdn_must (s := s) _ _).trans (B6 _)))))
  clear h hfin d1 d2 d3 d4 d5 B6 ih hE hl
  generalize (exprN s n ((exprN s n ((exprN s n ((st.name s).2.must s sColon)).2.must s sBe)).2.must s wIn)).1 = x3 at *
  generalize (exprN s n ((exprN s n ((exprN s n ((st.name s).2.must s sColon)).2.must s sBe)).2.must s wIn)).2 = s6 at *
  have HM5 : Hid (∀ W, Rdy W rb mv s (exprN s n ((exprN s n ((st.name s).2.must s sColon)).2.must s sBe)).2 → Calls Tryz.prog 40 #[.pointer (some ⟨rb, 0, none⟩), .string wIn] W fun e w' => RQ W rb mv s ((exprN s n ((exprN s n ((st.name s).2.must s sColon)).2.must s sBe)).2.must s wIn) (fun e _ => e = .returned (.tuple #[])) e w') := fun W hW => expectQ hW wIn
  generalize (exprN s n ((exprN s n ((st.name s).2.must s sColon)).2.must s sBe)).2.must s wIn = s5 at *
  generalize (exprN s n ((exprN s n ((st.name s).2.must s sColon)).2.must s sBe)).1 = x2 at *
  generalize (exprN s n ((exprN s n ((st.name s).2.must s sColon)).2.must s sBe)).2 = s4 at *
  have HM3 : Hid (∀ W, Rdy W rb mv s (exprN s n ((st.name s).2.must s sColon)).2 → Calls Tryz.prog 40 #[.pointer (some ⟨rb, 0, none⟩), .string sBe] W fun e w' => RQ W rb mv s ((exprN s n ((st.name s).2.must s sColon)).2.must s sBe) (fun e _ => e = .returned (.tuple #[])) e w') := fun W hW => expectQ hW sBe
  generalize (exprN s n ((st.name s).2.must s sColon)).2.must s sBe = s3 at *
  generalize (exprN s n ((st.name s).2.must s sColon)).1 = x1 at *
  generalize (exprN s n ((st.name s).2.must s sColon)).2 = s2 at *
  have HM1 : Hid (∀ W, Rdy W rb mv s (st.name s).2 → Calls Tryz.prog 40 #[.pointer (some ⟨rb, 0, none⟩), .string sColon] W fun e w' => RQ W rb mv s ((st.name s).2.must s sColon) (fun e _ => e = .returned (.tuple #[])) e w') := fun W hW => expectQ hW sColon
  generalize (st.name s).2.must s sColon = s1 at *
  generalize (st.name s).1 = nm at *
  generalize (st.name s).2 = s0 at *
  generalize st.t.at_ = ta at *
  go_enter Tryz.func65, Tryz.ntmps65
  go_wp2_with (go_at_call 37; refine KN.out.mono ?_)
  intro e W1 h1
  rcases h1 with ⟨hc1, rfl, hR1, hT1⟩ | ⟨hc1, hth⟩
  rotate_left
  · have HF : Hid (RX w rb mv s fin.2 (ExR w fin.1) e W1) := RX.bad (lost_of hc1) (by rw [fp_of hc1]; exact hth) (Touched.refl _ _) (by rw [HFi.out]; exact HB0.out)
    obtain ⟨fb, rfl, -⟩ := hth
    go_wp2_with fail
    exact ⟨rfl, HF.out⟩
  have hz1 := hT1.size
  have hr1 := hR1.lt
  have KM := hide (HM1.out _ (hR1.alloc (.cells #[.int .i64 1, .int .i64 (ta : Nat), .string nm] 74)))
  have HT1 := hide (hT1.trans (Touched.alloc W1 rb (.cells #[.int .i64 1, .int .i64 (ta : Nat), .string nm] 74)))
  have HBx := hide (heap_alloc_new W1 (.cells #[.int .i64 1, .int .i64 (ta : Nat), .string nm] 74))
  have hb1 : W1.heap.size < (W1.alloc (.cells #[.int .i64 1, .int .i64 (ta : Nat), .string nm] 74)).heap.size := by simp
  clear hR1 hT1 KN HM1 HB0
  go_wp2_with (go_at_call 40; refine KM.out.mono ?_)
  intro e W2 h2
  rcases h2 with ⟨hc2, rfl, hR2, hT2⟩ | ⟨hc2, hth⟩
  rotate_left
  · have HF : Hid (RX w rb mv s fin.2 (ExR w fin.1) e W2) := RX.bad (lost_of hc2) (by rw [fp_of hc2]; exact hth) HT1.out (by rw [HFi.out]; exact HB1.out)
    obtain ⟨fb, rfl, -⟩ := hth
    go_wp2_with fail
    exact ⟨rfl, HF.out⟩
  have KX := hide (HX1.out W2 hR2)
  have HT2 := hide (HT1.out.trans hT2)
  have HB2' := hide ((hT2.at hb1 (by omega)).trans HBx.out)
  have hb2 : W1.heap.size < W2.heap.size := Nat.lt_of_lt_of_le hb1 hT2.size
  clear hR2 hT2 KM HX1 HB1 HT1 HBx hb1
  go_wp2_with (go_at_call 41; refine KX.out.mono ?_)
  intro e W3 h3
  rcases h3 with ⟨hc3, ⟨e1, rfl, hl1, hx1⟩, hR3, hT3⟩ | ⟨hc3, hth⟩
  rotate_left
  · have HF : Hid (RX w rb mv s fin.2 (ExR w fin.1) e W3) := RX.bad hc3 hth HT2.out (by rw [HFi.out]; exact HB2.out)
    obtain ⟨fb, rfl, -⟩ := hth
    go_wp2_with fail
    exact ⟨rfl, HF.out⟩
  have hz2 := HT2.out.size
  have hl1' : w.heap.size ≤ e1 := Nat.le_trans hz2 hl1
  have KM := hide (HM3.out W3 hR3)
  have HT3 := hide (HT2.out.trans hT3)
  have HX1 := hide (hx1.wide hz2)
  have HB3' := hide ((hT3.at hb2 (by omega)).trans HB2'.out)
  have hb3 : W1.heap.size < W3.heap.size := Nat.lt_of_lt_of_le hb2 hT3.size
  clear hR3 hT3 KX HM3 HB2 HT2 HB2' hx1
  go_wp2_with (go_at_call 40; refine KM.out.mono ?_)
  intro e W4 h4
  rcases h4 with ⟨hc4, rfl, hR4, hT4⟩ | ⟨hc4, hth⟩
  rotate_left
  · have HF : Hid (RX w rb mv s fin.2 (ExR w fin.1) e W4) := RX.bad (lost_of hc4) (by rw [fp_of hc4]; exact hth) HT3.out (by rw [HFi.out]; exact HB3.out)
    obtain ⟨fb, rfl, -⟩ := hth
    go_wp2_with fail
    exact ⟨rfl, HF.out⟩
  have KX := hide (HX2.out W4 hR4)
  have HT4 := hide (HT3.out.trans hT4)
  have HX1a := hide (HX1.out.rest hT4 hlt hl1')
  have HB4' := hide ((hT4.at hb3 (by omega)).trans HB3'.out)
  have hb4 : W1.heap.size < W4.heap.size := Nat.lt_of_lt_of_le hb3 hT4.size
  clear hR4 hT4 KM HX2 HB3 HT3 HX1 HB3'
  go_wp2_with (go_at_call 41; refine KX.out.mono ?_)
  intro e W5 h5
  rcases h5 with ⟨hc5, ⟨e2, rfl, hl2, hx2⟩, hR5, hT5⟩ | ⟨hc5, hth⟩
  rotate_left
  · have HF : Hid (RX w rb mv s fin.2 (ExR w fin.1) e W5) := RX.bad hc5 hth HT4.out (by rw [HFi.out]; exact HB4.out)
    obtain ⟨fb, rfl, -⟩ := hth
    go_wp2_with fail
    exact ⟨rfl, HF.out⟩
  have hz4 := HT4.out.size
  have hl2' : w.heap.size ≤ e2 := Nat.le_trans hz4 hl2
  have KM := hide (HM5.out W5 hR5)
  have HT5 := hide (HT4.out.trans hT5)
  have HX1b := hide (HX1a.out.rest hT5 hlt hl1')
  have HX2 := hide (hx2.wide hz4)
  have HB5' := hide ((hT5.at hb4 (by omega)).trans HB4'.out)
  have hb5 : W1.heap.size < W5.heap.size := Nat.lt_of_lt_of_le hb4 hT5.size
  clear hR5 hT5 KX HM5 HB4 HT4 HX1a HB4' hx2
  go_wp2_with (go_at_call 40; refine KM.out.mono ?_)
  intro e W6 h6
  rcases h6 with ⟨hc6, rfl, hR6, hT6⟩ | ⟨hc6, hth⟩
  rotate_left
  · have HF : Hid (RX w rb mv s fin.2 (ExR w fin.1) e W6) := RX.bad (lost_of hc6) (by rw [fp_of hc6]; exact hth) HT5.out (by rw [HFi.out]; exact HB5.out)
    obtain ⟨fb, rfl, -⟩ := hth
    go_wp2_with fail
    exact ⟨rfl, HF.out⟩
  have KX := hide (HX3.out W6.drew hR6.drew)
  have HT6 := hide (HT5.out.trans hT6)
  have HX1c := hide (HX1b.out.rest hT6 hlt hl1')
  have HX2c := hide (HX2.out.rest hT6 hlt hl2')
  have hbox := (hT6.at hb5 (by omega)).trans HB5'.out
  have hb6 : W1.heap.size < W6.heap.size := Nat.lt_of_lt_of_le hb5 hT6.size
  have t1 : W6.cell? ⟨W1.heap.size, 1, none⟩ = some (.int .i64 (ta : Nat)) := cell_of hbox 1 rfl
  have t2 : W6.cell? ⟨W1.heap.size, 2, none⟩ = some (.string nm) := cell_of hbox 2 rfl
  have hz6 := HT6.out.size
  clear hR6 hT6 KM HX3 HB5 HT5 HX1b HX2 HB5'
  go_wp2_with fail
  go_region_law (first
    | (refine step_rx (f := 41) rfl ?_ KX.out ExR.ret ?_ ?_
       · simp [go_sem]
       · intro fb w5 hc9 h9
         exact ⟨rfl, RX.bad hc9 h9 HT6.out.drew' (by rw [HFi.out]; exact Bdn.refl _)⟩
       intro v w7 hc7 hG7 hR7 hT7
       obtain ⟨e3, he7, hl7, hx7⟩ := hG7
       injection he7 with he7
       subst he7
       have hbx7 := (hT7.at (k := W1.heap.size) hb6 (by omega)).trans hbox
       have y1 : w7.cell? ⟨W1.heap.size, 1, none⟩ = some (.int .i64 (ta : Nat)) := cell_of hbx7 1 rfl
       have y2 : w7.cell? ⟨W1.heap.size, 2, none⟩ = some (.string nm) := cell_of hbx7 2 rfl
       have hz7 := hT7.size
       have hzd : W6.drew.heap.size = W6.heap.size := rfl
       have hwl7 : W1.heap.size < w7.heap.size := by omega
       have hx1' : XP w7 (fun b => w.heap.size ≤ b) e1 x1 := (HX1c.out.later (Below.refl _ _).drew).rest hT7 hlt hl1'
       have hx2' : XP w7 (fun b => w.heap.size ≤ b) e2 x2 := (HX2c.out.later (Below.refl _ _).drew).rest hT7 hlt hl2'
       have hB8 : Below w7.heap.size w7 (w7.alloc (.cells #[.pointer (some ⟨e1, 0, none⟩), .pointer (some ⟨e2, 0, none⟩), .pointer (some ⟨e3, 0, none⟩)] 104)) := (Below.refl _ _).alloc (Nat.le_refl _) _
       have KQ := hide (made_calls 7 ta nm [x1, x2, x3] (fun i => if i = 0 then e1 else if i = 1 then e2 else e3) (some ⟨w7.heap.size, 0, none⟩) 3 (w7.alloc (.cells #[.pointer (some ⟨e1, 0, none⟩), .pointer (some ⟨e2, 0, none⟩), .pointer (some ⟨e3, 0, none⟩)] 104)) (by simp) (fun i hi => ⟨w7.heap.size, rfl, three_ptrs i hi⟩) (fun b => w.heap.size ≤ b) (fun i hi => by
         match i, hi with
         | 0, _ => exact hx1'.later hB8
         | 1, _ => exact hx2'.later hB8
         | 2, _ => exact (hx7.wide (by omega)).later hB8)))
    | (refine step_made (f := 85) rfl ?_ KQ.out ?_
       · simp [go_sem]
       intro e8 w8 h8))
  all_goals
    obtain ⟨hl8, hx8, hB9⟩ := h8
    have hB10 := hB8.trans (hB9.mono hB8.size)
    have HF : Hid (RX w rb mv s fin.2 (ExR w fin.1) (.returned (.pointer (some ⟨e8, 0, none⟩))) w8) := by
      rw [HFi.out]
      exact .inl ⟨hc7, ⟨e8, rfl, by simp at hl8; omega, hx8.keep rfl fun b _ hs => ⟨by rcases hs with hs | hs; exact hs; simp at hs; omega, rfl⟩⟩, hR7.later hB10, (HT6.out.drew'.trans hT7).later hB10⟩
    clear hx8 hB9 hB10 hB8 hR7 hT7 KQ KX hx7 hx1' hx2'
    go_wp2_with fail
    go_ret
    exact HF.out
end
end Go.Proofs.YtekfledccpeblaaGreatDoor

/- Rows that grow while the reader reads; the contract of names. -/
namespace Go.Proofs.YtekfledccpeblaaGreatDoor
open Go.RowKit

section
variable {α : Type} {P : World → (Nat → Prop) → α → Value → Prop} {T z : Nat} {rb : Nat} {mv : Value} {s : ByteArray}
/-- While parts are read. -/
structure RwSt (P : World → (Nat → Prop) → α → Value → Prop) (T z : Nat) (w : World) (rb : Nat) (mv : Value) (s : ByteArray) (l : List α) (st : FS) (A : Option Addr) (c : Nat) (ys : List Value) (W : World) : Prop where
  row : GRow (KL P l) W T z 0 w.heap.size l.length (.slice A l.length c) ys
  rdy : Rdy W rb mv s st
  old : Touched w rb W
theorem RwSt.touched (hP : Keep1 P) {w : World} {l : List α} {st st' : FS} {A : Option Addr} {c : Nat} {ys : List Value} {W W' : World} (h : RwSt P T z w rb mv s l st A c ys W) (hR : Rdy W' rb mv s st') (hT : Touched W rb W') (h2 : rb < w.heap.size) : RwSt P T z w rb mv s l st' A c ys W' :=
  ⟨h.row.touched (KL.keeps hP _) hT h2, hR, h.old.trans hT⟩
theorem RwSt.snoc (hP : Keep1 P) {w W W4 w6 : World} {l : List α} {st st0 st2 : FS} {A : Option Addr} {c : Nat} {ys : List Value} {x : α} {a : Array Value} {o : Obj} {rv : Value} (h0 : Rdy w rb mv s st0) (h : RwSt P T z w rb mv s l st A c ys W) (hR : Rdy W4 rb mv s st2) (hT : Touched W rb W4) (hx : P W4 (fun b => W.heap.size ≤ b) x (.agg a)) (ha : a.size = z)
    (hown : w6.ownsRow w.heap.size T z rv (l.length + 1) (flat ys ++ a.toList)) (hgr : (W4.alloc o).grownBy w6 (Value.slice A l.length c).ownBlock) (hpl : rv.ownBlock = (Value.slice A l.length c).ownBlock ∨ rv.ownBlock = some (W4.alloc o).heap.size) :
    ∃ A6 c6, rv = .slice A6 (l.length + 1) c6 ∧ RwSt P T z w rb mv s (l ++ [x]) st2 A6 c6 (ys ++ [.agg a]) w6 := by
  have hlt := h0.lt
  have hz3 := h.old.size
  have hz4 := hT.size
  have hG := GRow.snoc hP h.row hT hlt hz3 hx ha hown hgr hpl
  obtain ⟨A6, c6, hv6⟩ := own_row_slice hown
  subst hv6
  refine ⟨A6, c6, rfl, ?_⟩
  have hT6 : Touched w rb w6 := by
    refine ⟨hgr.os.trans (hT.os.trans h.old.os), hgr.tape.trans (hT.tape.trans h.old.tape), hgr.output.trans (hT.output.trans h.old.output), by have := hgr.size; simp at this; omega, fun b hb hne => ?_⟩
    rw [hgr.block b (by simp; omega) (fun e => by have := (h.row.own.lt _ e.symm).1; omega), Below.heap_alloc _ _ _ (by omega), hT.block b (by omega) hne]
    exact h.old.block b hb hne
  refine ⟨by have := hG; simpa using this, h0.next (hR.rd.of_block ?_) hR.ok hT6, hT6⟩
  rw [hgr.block rb (by simp; omega) (fun e => by have := (h.row.own.lt _ e.symm).1; omega), Below.heap_alloc _ _ _ hR.lt]
theorem RwSt.one (hP : Keep1 P) {w W : World} {st : FS} {x : α} {a : Array Value} (hR : Rdy W rb mv s st) (hT : Touched w rb W) (hx : P W (fun b => w.heap.size ≤ b) x (.agg a)) (ha : a.size = z) : RwSt P T z w rb mv s [x] st (some ⟨W.heap.size, 0, none⟩) 1 [.agg a] (W.alloc (.cells a T)) :=
  ⟨GRow.one hP hT.size hx ha, hR.alloc _, hT.trans (Touched.alloc _ _ _)⟩
end

/-- A name's token. -/
def TkP (_ : World) (_ : Nat → Prop) (x : ByteArray × Nat) (v : Value) : Prop := v = .agg #[.int .i64 1, .int .i64 (x.2 : Nat), .string x.1]
theorem keep_TkP : Keep1 TkP := fun _ _ _ _ _ _ _ hp => hp
/-- Names lie there. -/
def NsIn (w : World) (S : Nat → Prop) (A : Option Addr) (l : List (ByteArray × Nat)) : Prop := ∀ i (h : i < l.length), ∃ b, A = some ⟨b, 0, none⟩ ∧ S b ∧ w.cell? ⟨b, i * 3, none⟩ = some (.int .i64 1) ∧ w.cell? ⟨b, i * 3 + 1, none⟩ = some (.int .i64 ((l[i].2 : Nat))) ∧ w.cell? ⟨b, i * 3 + 2, none⟩ = some (.string l[i].1)
theorem GRow.toks {W : World} {T n0 : Nat} {l : List (ByteArray × Nat)} {rv : Value} {ys : List Value} (h : GRow (KL TkP l) W T 3 0 n0 l.length rv ys) : ∃ A c, rv = .slice A l.length c ∧ NsIn W (fun b => n0 ≤ b) A l := by
  obtain ⟨A, c, e, hp⟩ := h.out (KL.keeps keep_TkP _)
  refine ⟨A, c, e, fun i hi => ?_⟩
  obtain ⟨g, a, ea, hg, hz, hc, hin⟩ := hp i hi
  obtain ⟨_, hv⟩ := hin
  have hv' : a = #[.int .i64 1, .int .i64 (l[i].2 : Nat), .string l[i].1] := by injection hv
  subst hv'
  exact ⟨g, ea, hg, hc 0 (by omega), hc 1 (by omega), hc 2 (by omega)⟩
theorem NsIn.touched {w w' : World} {n0 rb : Nat} {A : Option Addr} {l : List (ByteArray × Nat)} (h : NsIn w (fun b => n0 ≤ b) A l) (hT : Touched w rb w') (hr : rb < n0) : NsIn w' (fun b => n0 ≤ b) A l := fun i hi => by
  obtain ⟨b, e, hs, h0, h1, h2⟩ := h i hi
  have hb := World.block_lt_of_cell? _ _ h0
  have hs' : n0 ≤ b := hs
  have hk : w'.heap[b]? = w.heap[b]? := hT.at hb (by omega)
  exact ⟨b, e, hs, (World.cell?_of_block hk).trans h0, (World.cell?_of_block hk).trans h1, (World.cell?_of_block hk).trans h2⟩
theorem Tryz.info74' : (Tryz.prog.info? 74).map (fun i => (i.zero, i.size, i.bytes)) = some (some (.agg #[.int .i64 0, .int .i64 0, .string ⟨#[]⟩]), 3, 32) := by kernel_rfl

section
variable {rb : Nat} {mv : Value} {s : ByteArray}
/-- Names were read. -/
def NsR (w : World) (l : List (ByteArray × Nat)) (e : Ending) (w' : World) : Prop := ∃ (A : Option Addr) (c : Nat), e = .returned (.slice A l.length c) ∧ NsIn w' (fun b => w.heap.size ≤ b) A l
theorem name_kin {st : FS} (h : st.kin 1 = true) : st.name s = (st.t.t, st.step s) := by unfold FS.name; rw [if_pos h]
/-- Names that may follow. -/
def namesF (s : ByteArray) (g : Nat) (l : List (ByteArray × Nat)) (st : FS) : List (ByteArray × Nat) × FS := if st.kin 1 = true then namesN s g l st else (l, st)

set_option maxRecDepth 100000 in
set_option maxHeartbeats 8000000 in
theorem names_calls (n : Nat) (hn : n ≤ 1000000) (st : FS) (w : World) (h : Rdy w rb mv s st) (hl : st.left s < n) :
    Calls Tryz.prog 83 #[.pointer (some ⟨rb, 0, none⟩)] w fun e w' => RQ w rb mv s (namesN s (n + 1) [] st).2 (NsR w (namesN s (n + 1) [] st).1) e w' := by
  have H := hide h
  have hlt := h.lt
  have KN := hide (nameQ h)
  have hd := (Dn.refl h.ok).name
  have HLe : Hid ((st.name s).2.left s < n) := hide (Nat.lt_of_le_of_lt hd.left hl)
  obtain ⟨fin, hfin⟩ : ∃ fin, fin = namesN s (n + 1) [] st := ⟨_, rfl⟩
  rw [← hfin]
  have HFi : Hid (fin = namesF s n [((st.name s).1, st.t.at_)] (st.name s).2) := hide (by rw [hfin]; rfl)
  obtain ⟨i0, hi, hz0, hz1, hz2⟩ := infoParts Tryz.info74'
  clear hfin h hd hl
  generalize (st.name s).1 = nm at *
  generalize (st.name s).2 = st1 at *
  generalize st.t.at_ = ta at *
  go_enter Tryz.func83, Tryz.ntmps83
  go_wp2_with (go_at_call 37; refine KN.out.mono ?_)
  intro e W1 h1
  rcases h1 with ⟨hc1, rfl, hR1, hT1⟩ | ⟨hc1, hth⟩
  rotate_left
  · have HF : Hid (RQ w rb mv s fin.2 (NsR w fin.1) e W1) := RQ.bad hc1 hth (Touched.refl _ _) (by rw [HFi.out]; unfold namesF; rw [if_neg (by rw [(lost_of hc1).kin (by decide)]; simp)])
    obtain ⟨fb, rfl, -⟩ := hth
    go_wp2_with fail
    exact ⟨rfl, HF.out⟩
  have HS : Hid (RwSt TkP 74 3 w rb mv s [(nm, ta)] st1 (some ⟨W1.heap.size, 0, none⟩) 1 [.agg #[.int .i64 1, .int .i64 (ta : Nat), .string nm]] (W1.alloc (.cells #[.int .i64 1, .int .i64 (ta : Nat), .string nm] 74))) := RwSt.one keep_TkP hR1 hT1 rfl rfl
  clear hR1 hT1 KN
  go_wp2_with fail
  go_loopg [3] n (fun g v wr => ∃ (l : List (ByteArray × Nat)) (st' : FS) (A : Option Addr) (c : Nat) (ys : List Value), v = .slice A l.length c ∧ Hid (namesF s g l st' = fin) ∧ Hid (st'.left s < g) ∧ l.length + g = n + 1 ∧ Hid (RwSt TkP 74 3 w rb mv s l st' A c ys wr))
  case atStart => exact ⟨[(nm, ta)], st1, _, _, _, rfl, HFi.out.symm, HLe.out, by simp; omega, HS.out⟩
  case round =>
    clear HS HLe HFi
    obtain ⟨l, st', A, c, ys, rfl, HE, HLt, hlen, HS⟩ := hrel
    obtain ⟨g', rfl⟩ : ∃ g', gk = g' + 1 := ⟨gk - 1, by have := HLt.out; omega⟩
    have hok := HS.out.rdy.ok
    have hco := HS.out.rdy.code
    obtain ⟨k, t, q1, q2, q3, hk, hk3, _⟩ := HS.out.rdy.kind
    have hk1 := hk 1 (by omega)
    have hke := kin_eq (k := 1) hco
    by_cases hp : st'.kin 1 = true
    · have hkd : st'.t.kd = 1 := by rw [hke] at hp; simpa using hp
      have hkq : ((k : Int) == (1 : Int)) = true := by rw [show ((1 : Int)) = ((1 : Nat) : Int) from rfl, hk1, hkd]; rfl
      have hlef := FS.step_left hok hco (by omega) (by omega)
      have HE2 : Hid (namesF s g' (l ++ [(st'.t.t, st'.t.at_)]) (st'.step s) = fin) := hide (by
        have := HE.out
        unfold namesF at this
        rw [if_pos hp] at this
        simp only [namesN, name_kin hp] at this
        exact this)
      have HL2 : Hid ((st'.step s).left s < g') := hide (by have := HLt.out; omega)
      have KT := hide (takeQ HS.out.rdy (by omega))
      rw [hkd] at KT
      clear hlef hkd hok hco HE HLt hk hk3 hk1 hke hp
      generalize st'.step s = st2 at *
      generalize st'.t.t = nm2 at *
      generalize st'.t.at_ = ta2 at *
      go_wp2_with (go_at_call 60; refine KT.out.mono ?_)
      rintro e W4 ⟨rfl, hR4, hT4⟩
      have hz3 := HS.out.old.size
      have hz4 := hT4.size
      have HO4 := hide ((HS.out.row.touched (KL.keeps keep_TkP _) hT4 hlt).own.alloc (.cells #[.int .i64 1, .int .i64 (ta2 : Nat), .string nm2] 74))
      have HR4 := hide hR4
      have HT4 := hide hT4
      clear hR4 hT4 KT q1 q2 q3
      go_wp2_with (at_builtin; refine wpList_append_placed _ rfl _ _ 151 rfl w.heap.size 74 i0 _ 3 32 Tryz.underlying151 hi hz0 hz1 hz2 rfl (by decide) (.slice A l.length c) l.length (flat ys) rfl HO4.out ⟨W4.heap.size, 0, none⟩ 1 1 [.int .i64 1, .int .i64 (ta2 : Nat), .string nm2] rfl rfl (cells_new _ [.int .i64 1, .int .i64 (ta2 : Nat), .string nm2] _) (by intro u hu; simp at hu; rcases hu with rfl | rfl | rfl <;> rfl) (by decide) (by unfold maxLen; omega) (by omega) (by simp; omega) ?_)
      intro v' w6 hown6 hgr6 hpl6
      obtain ⟨A6, c6, hv6, hS6⟩ := RwSt.snoc keep_TkP (x := (nm2, ta2)) H.out HS.out HR4.out HT4.out rfl rfl hown6 hgr6 (by simpa using hpl6)
      subst hv6
      have HS6 := hide hS6
      clear hown6 hgr6 hpl6 hS6 HO4 HR4 HT4 HS
      go_wp2_with fail
      go_roundg g'
      case measure => omega
      case rel => exact ⟨l ++ [(nm2, ta2)], st2, A6, c6, _, by simp, HE2.out, HL2.out, by simp; omega, HS6.out⟩
    · have hp' : st'.kin 1 = false := by simpa using hp
      have hkq : ((k : Int) == (1 : Int)) = false := by rw [show ((1 : Int)) = ((1 : Nat) : Int) from rfl, hk1, ← hke, hp']
      have hfi : fin = (l, st') := by rw [← HE.out]; unfold namesF; rw [if_neg hp]
      subst hfi
      have HF : Hid (RQ w rb mv s st' (NsR w l) (.returned (.slice A l.length c)) wr) := by
        obtain ⟨A', c', e', hL⟩ := GRow.toks (l := l) HS.out.row
        injection e' with e1 e2 e3
        subst e1
        exact .inl ⟨hco, ⟨A, c, rfl, hL⟩, HS.out.rdy, HS.out.old⟩
      clear HE HLt hp hp' hok hco HS hk hk3 hk1 hke
      go_wp2_with fail
      go_ret
      exact HF.out
end
end Go.Proofs.YtekfledccpeblaaGreatDoor
