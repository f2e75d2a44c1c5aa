/- The contract of the reader's called. -/
import Derived.Test.YtekfledccpeblaaGreatDoorKl

namespace Go.Proofs.YtekfledccpeblaaGreatDoor
open Go.RowKit

section
variable {rb : Nat} {mv : Value} {s : ByteArray}
theorem Rdy.put {w W : World} {st0 st : FS} (h0 : Rdy w rb mv s st0) (h : Rdy W rb mv s st) (hT : Touched w rb W) {eb : Nat} (hle : w.heap.size ≤ eb) (i : Nat) (u : Value) : Rdy (W.setCell ⟨eb, i, none⟩ u) rb mv s st :=
  h0.next (h.rd.of_block (Below.heap_setCell _ _ _ _ (by show rb ≠ eb; have := h0.lt; omega))) h.ok (hT.setNew (a := ⟨eb, i, none⟩) hle u)
theorem set_xcs {W : World} {eb i : Nat} {v : Array Value} (h : W.heap[eb]? = some (.cells v 43 (0, 0))) (u : Value) : (W.setCell ⟨eb, i, none⟩ u).heap[eb]? = some (.cells (v.setIfInBounds i u) 43 (0, 0)) := by
  simp [World.setCell, Array.getElem?_modify, h]

set_option maxRecDepth 100000 in
set_option maxHeartbeats 8000000 in
theorem called_calls (n a : Nat) (hn : n ≤ 1000000) (st : FS) (w : World) (h : Rdy w rb mv s st) (hl : st.left s ≤ n) :
    Calls Tryz.prog 110 #[.pointer (some ⟨rb, 0, none⟩), .int .i64 (a : Nat)] w fun e w' => RQ w rb mv s (nameX s n a (st.is sAt) (if st.is sAt = true then st.step s else st)).2 (ExR w (nameX s n a (st.is sAt) (if st.is sAt = true then st.step s else st)).1) e w' := by
  have H := hide h
  have hlt := h.lt
  have KT := hide (tookQ h sAt)
  have hok0 : (if st.is sAt = true then st.step s else st).Ok s := by split; exact h.ok.step; exact h.ok
  have hle0 : (if st.is sAt = true then st.step s else st).left s ≤ n := by
    split
    · exact Nat.le_trans (FS.step_le h.ok) hl
    · exact hl
  generalize st.is sAt = ex at *
  generalize (if ex = true then st.step s else st) = st0 at *
  have HNm : Hid (∀ W, Rdy W rb mv s st0 → Calls Tryz.prog 37 #[.pointer (some ⟨rb, 0, none⟩)] W fun e w' => RQ W rb mv s (st0.name s).2 (fun e _ => e = .returned (.agg #[.int .i64 1, .int .i64 (st0.t.at_ : Nat), .string (st0.name s).1])) e w') := fun W hW => nameQ hW
  have hdn : Dn s st0 (st0.name s).2 := (Dn.refl hok0).name
  have hle1 : (st0.name s).2.left s ≤ n := Nat.le_trans hdn.left hle0
  have hok1 := hdn.ok
  obtain ⟨fin, hfin⟩ : ∃ fin, fin = nameX s n a ex st0 := ⟨_, rfl⟩
  have HFin : Hid (fin = if (st0.name s).2.is sLevels = true then (.node 1 a (st0.name s).1 ex true false false (levelsN s n n [(levelN s n ((st0.name s).2.step s)).1] (levelN s n ((st0.name s).2.step s)).2).1 [], (levelsN s n n [(levelN s n ((st0.name s).2.step s)).1] (levelN s n ((st0.name s).2.step s)).2).2.must s sUnbrace) else (.node 1 a (st0.name s).1 ex false false false [] [], (st0.name s).2)) := hfin
  rw [← hfin]
  clear h hfin hdn hok0 hle0 hl
  generalize (st0.name s).1 = nm at *
  generalize (st0.name s).2 = st1 at *
  generalize st0.t.at_ = ta at *
  have hfd : ∀ (w : World), (Instr.field 74 (.agg #[.int .i64 1, .int .i64 (ta : Nat), .string nm]) 2).run Tryz.prog w = .ok (.string nm) w := fun w => by kernel_rfl
  go_enter Tryz.func110, Tryz.ntmps110
  go_wp2_with (go_at_call 58; refine KT.out.mono ?_)
  rintro e W0 ⟨rfl, hR0, hT0⟩
  have KN := hide (HNm.out W0 hR0)
  have HT0 := hide hT0
  clear hR0 hT0 KT HNm
  go_wp2_with (go_at_call 37; refine KN.out.mono ?_)
  intro e W1 h1
  rcases h1 with ⟨hc1, rfl, hR1, hT1⟩ | ⟨hc1, hth⟩
  rotate_left
  · have HF : Hid (RQ w rb mv s fin.2 (ExR w fin.1) e W1) := RQ.bad hc1 hth HT0.out (by rw [HFin.out, if_neg (by rw [is_bad hc1]; simp)])
    obtain ⟨fb, rfl, -⟩ := hth
    go_wp2_with fail
    exact ⟨rfl, HF.out⟩
  have KM := hide (nil_made 1 a nm W1)
  have HT1 := hide (HT0.out.trans hT1)
  have HR1 := hide hR1
  have hz1 := HT1.out.size
  clear hR1 hT1 KN HT0
  go_wp2_with (go_at_call 85; refine KM.out.mono ?_)
  rintro e W2 ⟨eb, A, c, rfl, hle, hblk, -, hB2⟩
  have hle' : w.heap.size ≤ eb := by omega
  have z3 : W2.cell? ⟨eb, 3, none⟩ = some (.bool false) := cell_of hblk 3 rfl
  have zf : ∀ i, W2.frozen? ⟨eb, i, none⟩ = false := fun i => frozen_of hblk i
  have zl : eb < W2.heap.size := (Array.getElem?_eq_some_iff.1 hblk).1
  have hT2 := HT1.out.later hB2
  have hR3 := H.out.put (HR1.out.later hB2) hT2 hle' 3 (.bool ex)
  have hT3 := hT2.setNew (a := ⟨eb, 3, none⟩) hle' (.bool ex)
  have hblk3 := set_xcs (i := 3) hblk (.bool ex)
  have hrb : rb ≠ eb := by omega
  clear hblk hB2 hT2 KM HT1 HR1
  go_wp2_with fail
  generalize W2.setCell ⟨eb, 3, none⟩ (.bool ex) = W3 at *
  have KT4 := hide (tookQ hR3 sLevels)
  have HT3 := hide hT3
  have HB3 := hide hblk3
  have hel3 : eb < W3.heap.size := (Array.getElem?_eq_some_iff.1 hblk3).1
  clear hR3 hT3 hblk3 z3 zf zl
  by_cases hq : st1.is sLevels = true
  · have hkd := (FS.is_kd hq).2.1
    have hlef := FS.step_left hok1 hc1 (by omega) (by omega)
    have HFi : Hid (fin = (.node 1 a nm ex true false false (levelsN s n n [(levelN s n (st1.step s)).1] (levelN s n (st1.step s)).2).1 [], (levelsN s n n [(levelN s n (st1.step s)).1] (levelN s n (st1.step s)).2).2.must s sUnbrace)) := hide (by rw [HFin.out, if_pos hq])
    have HLs : Hid (∀ W, Rdy W rb mv s (st1.step s) → Calls Tryz.prog 115 #[.pointer (some ⟨rb, 0, none⟩)] W fun e w' => RQ W rb mv s ((levelsN s n n [(levelN s n (st1.step s)).1] (levelN s n (st1.step s)).2).2.must s sUnbrace) (LsR W (levelsN s n n [(levelN s n (st1.step s)).1] (levelN s n (st1.step s)).2).1) e w') := fun W hW => levels_calls n hn _ W hW (by omega)
    rw [hq, if_pos rfl] at KT4
    clear HFin hkd hlef hq hok1 hle1
    generalize (levelsN s n n [(levelN s n (st1.step s)).1] (levelN s n (st1.step s)).2).1 = ls at *
    generalize (levelsN s n n [(levelN s n (st1.step s)).1] (levelN s n (st1.step s)).2).2.must s sUnbrace = st3 at *
    generalize st1.step s = st2 at *
    go_wp2_with (go_at_call 58; refine KT4.out.mono ?_)
    rintro e W4 ⟨rfl, hR4, hT4⟩
    have hblk4 := (hT4.at hel3 (Ne.symm hrb)).trans HB3.out
    have z4 : W4.cell? ⟨eb, 4, none⟩ = some (.bool false) := cell_of hblk4 4 rfl
    have zf : ∀ i, W4.frozen? ⟨eb, i, none⟩ = false := fun i => frozen_of hblk4 i
    have zl : eb < W4.heap.size := (Array.getElem?_eq_some_iff.1 hblk4).1
    have hT4' := HT3.out.trans hT4
    have hR5 := H.out.put hR4 hT4' hle' 4 (.bool true)
    have hT5 := hT4'.setNew (a := ⟨eb, 4, none⟩) hle' (.bool true)
    have hblk5 := set_xcs (i := 4) hblk4 (.bool true)
    clear hblk4 hR4 hT4 hT4' KT4 HT3 HB3
    go_wp2_with fail
    generalize W4.setCell ⟨eb, 4, none⟩ (.bool true) = W5 at *
    have KLs := hide (HLs.out W5 hR5)
    have HT5 := hide hT5
    have HB5 := hide hblk5
    have hel5 : eb < W5.heap.size := (Array.getElem?_eq_some_iff.1 hblk5).1
    clear hR5 hT5 hblk5 HLs z4 zf zl
    go_wp2_with (go_at_call 115; refine KLs.out.mono ?_)
    intro e W6 h6
    rcases h6 with ⟨hc6, ⟨A6, c6, rfl, hL6⟩, hR6, hT6⟩ | ⟨hc6, hth⟩
    rotate_left
    · have HF : Hid (RQ w rb mv s fin.2 (ExR w fin.1) e W6) := RQ.bad hc6 hth HT5.out (by rw [HFi.out])
      obtain ⟨fb, rfl, -⟩ := hth
      go_wp2_with fail
      exact ⟨rfl, HF.out⟩
    have hblk6 := (hT6.at hel5 (Ne.symm hrb)).trans HB5.out
    have z7 : W6.cell? ⟨eb, 7, none⟩ = some (.slice none 0 0) := cell_of hblk6 7 rfl
    have zf : ∀ i, W6.frozen? ⟨eb, i, none⟩ = false := fun i => frozen_of hblk6 i
    have zl : eb < W6.heap.size := (Array.getElem?_eq_some_iff.1 hblk6).1
    have hz5 := HT5.out.size
    have HF : Hid (RQ w rb mv s fin.2 (ExR w fin.1) (.returned (.pointer (some ⟨eb, 0, none⟩))) (W6.setCell ⟨eb, 7, none⟩ (.slice A6 ls.length c6))) := by
      rw [HFi.out]
      have hT7 := HT5.out.trans hT6
      refine .inl ⟨hc6, ⟨eb, rfl, hle', ⟨_, set_xcs hblk6 _, ?_⟩⟩, H.out.put hR6 hT7 hle' 7 _, hT7.setNew (a := ⟨eb, 7, none⟩) hle' _⟩
      exact InX.of (xs := []) (hL6.keep fun b hb hs => ⟨by have : W5.heap.size ≤ b := hs; omega, Below.heap_setCell _ _ _ _ (by show b ≠ eb; have : W5.heap.size ≤ b := hs; omega)⟩) (XsIn.nil _ _ _)
    clear hL6 hR6 hT6 hblk6 KLs
    go_wp2_with fail
    go_ret
    exact HF.out
  · have hq' : st1.is sLevels = false := by simpa using hq
    have HFi : Hid (fin = (.node 1 a nm ex false false false [] [], st1)) := hide (by rw [HFin.out, if_neg hq])
    rw [hq', if_neg (by simp)] at KT4
    clear HFin hq hq' hok1 hle1
    go_wp2_with (go_at_call 58; refine KT4.out.mono ?_)
    rintro e W4 ⟨rfl, hR4, hT4⟩
    have HF : Hid (RQ w rb mv s fin.2 (ExR w fin.1) (.returned (.pointer (some ⟨eb, 0, none⟩))) W4) := by
      rw [HFi.out]
      refine .inl ⟨hc1, ⟨eb, rfl, hle', ⟨_, (hT4.at hel3 (Ne.symm hrb)).trans HB3.out, ?_⟩⟩, hR4, HT3.out.trans hT4⟩
      exact InX.of (ls := []) (xs := []) (LvsIn.nil _ _ _) (XsIn.nil _ _ _)
    clear hR4 hT4 KT4
    go_wp2_with fail
    go_ret
    exact HF.out
end
end Go.Proofs.YtekfledccpeblaaGreatDoor

/- The contracts of the reader's bracketed and atom. -/
namespace Go.Proofs.YtekfledccpeblaaGreatDoor
open Go.RowKit

section
variable {rb : Nat} {mv : Value} {s : ByteArray}
/-- What is said of expr. -/
def ExprC (rb : Nat) (mv : Value) (s : ByteArray) (n : Nat) : Prop := ∀ (st : FS) (w : World), Rdy w rb mv s st → st.left s < n → Calls Tryz.prog 41 #[.pointer (some ⟨rb, 0, none⟩)] w fun e w' => RX w rb mv s (exprN s n st).2 (ExR w (exprN s n st).1) e w'
theorem ExR.ret {w : World} {x : Ex} (e : Ending) (w' : World) (h : ExR w x e w') : ∃ v, e = .returned v := by obtain ⟨_, h, _⟩ := h; exact ⟨_, h⟩
/-- An expression that was read before, in a later world. -/
theorem XP.rest {w W W' : World} {eb : Nat} {x : Ex} (h : XP W (fun b => w.heap.size ≤ b) eb x) (hT : Touched W rb W') (hr : rb < w.heap.size) (he : w.heap.size ≤ eb) : XP W' (fun b => w.heap.size ≤ b) eb x :=
  h.keep (hT.at h.lt (by omega)) fun b hb hs => ⟨hs, hT.at hb (by have : w.heap.size ≤ b := hs; omega)⟩
theorem XP.wide {w w0 W : World} {eb : Nat} {x : Ex} (h : XP W (fun b => w.heap.size ≤ b) eb x) (hz : w0.heap.size ≤ w.heap.size) : XP W (fun b => w0.heap.size ≤ b) eb x :=
  h.keep rfl fun b _ hs => ⟨by have : w.heap.size ≤ b := hs; omega, rfl⟩

set_option maxRecDepth 100000 in
set_option maxHeartbeats 8000000 in
theorem bracketed_calls (n a : Nat) (ih : ExprC rb mv s n) (st : FS) (w : World) (h : Rdy w rb mv s st) (hl : st.left s < n) :
    Calls Tryz.prog 109 #[.pointer (some ⟨rb, 0, none⟩), .int .i64 (a : Nat)] w fun e w' => RX w rb mv s (bracketX s (exprN s n) a st).2 (ExR w (bracketX s (exprN s n) a st).1) e w' := by
  have H := hide h
  have hlt := h.lt
  have KE := hide (ih st w h hl)
  have hd := exprN_fwd n st h.ok
  have hok1 := hd.ok
  have hle1 : (exprN s n st).2.left s < n := Nat.lt_of_le_of_lt hd.left hl
  obtain ⟨fin, hfin⟩ : ∃ fin, fin = bracketX s (exprN s n) a st := ⟨_, rfl⟩
  have HBad : Hid (Bdn (exprN s n st).2 fin.2) := hide (fun hb => by
    rw [hfin]
    unfold bracketX
    simp only
    rw [if_neg (by rw [hb.is]; simp)]
    exact bdn_must (s := s) _ _ hb)
  have HFin : Hid (fin = if (exprN s n st).2.is sColon = true then (.node 8 a ⟨#[]⟩ false false false false [] [(exprN s n st).1, (exprN s n ((exprN s n st).2.step s)).1], (exprN s n ((exprN s n st).2.step s)).2.must s sShut) else ((exprN s n st).1, (exprN s n st).2.must s sShut)) := hfin
  rw [← hfin]
  clear h hfin hd hl
  generalize (exprN s n st).1 = x1 at *
  generalize (exprN s n st).2 = st1 at *
  go_enter Tryz.func109, Tryz.ntmps109
  go_wp2_with (go_at_call 41; refine KE.out.mono ?_)
  intro e W1 h1
  rcases h1 with ⟨hc1, ⟨e1, rfl, hl1, hx1⟩, hR1, hT1⟩ | ⟨hc1, hth⟩
  rotate_left
  · have HF : Hid (RX w rb mv s fin.2 (ExR w fin.1) e W1) := RX.bad hc1 hth (Touched.refl _ _) HBad.out
    obtain ⟨fb, rfl, -⟩ := hth
    go_wp2_with fail
    exact ⟨rfl, HF.out⟩
  have KT := hide (tookQ hR1 sColon)
  have HX1 := hide hx1
  have HT1 := hide hT1
  clear hx1 hR1 hT1 KE
  by_cases hq : st1.is sColon = true
  · have hkd := (FS.is_kd hq).2.1
    have hlef := FS.step_left hok1 hc1 (by omega) (by omega)
    have HFi : Hid (fin = (.node 8 a ⟨#[]⟩ false false false false [] [x1, (exprN s n (st1.step s)).1], (exprN s n (st1.step s)).2.must s sShut)) := hide (by rw [HFin.out, if_pos hq])
    have HIH : Hid (∀ W, Rdy W rb mv s (st1.step s) → Calls Tryz.prog 41 #[.pointer (some ⟨rb, 0, none⟩)] W fun e w' => RX W rb mv s (exprN s n (st1.step s)).2 (ExR W (exprN s n (st1.step s)).1) e w') := fun W hW => ih _ W hW (by omega)
    rw [hq, if_pos rfl] at KT
    clear HFin HBad hq hkd hlef hok1 hle1 ih
    generalize (exprN s n (st1.step s)).1 = x2 at *
    generalize (exprN s n (st1.step s)).2 = st2 at *
    generalize st1.step s = sta at *
    go_wp2_with (go_at_call 58; refine KT.out.mono ?_)
    rintro e W2 ⟨rfl, hR2, hT2⟩
    have KE := hide (HIH.out W2 hR2)
    have HT2 := hide (HT1.out.trans hT2)
    have HX2 := hide (HX1.out.rest hT2 hlt hl1)
    clear hR2 hT2 KT HIH HX1 HT1
    go_wp2_with (go_at_call 41; refine KE.out.mono ?_)
    intro e W3 h3
    rcases h3 with ⟨hc3, ⟨e3, rfl, hl3, hx3⟩, hR3, hT3⟩ | ⟨hc3, hth⟩
    rotate_left
    · have HF : Hid (RX w rb mv s fin.2 (ExR w fin.1) e W3) := RX.bad hc3 hth HT2.out (by rw [HFi.out]; exact bdn_must (s := s) _ _)
      obtain ⟨fb, rfl, -⟩ := hth
      go_wp2_with fail
      exact ⟨rfl, HF.out⟩
    have hz2 := HT2.out.size
    have hz3 := hT3.size
    have hB : Below W3.heap.size W3 (W3.alloc (.cells #[.pointer (some ⟨e1, 0, none⟩), .pointer (some ⟨e3, 0, none⟩)] 104)) := (Below.refl _ _).alloc (Nat.le_refl _) _
    have KM := hide (made_calls 8 a ⟨#[]⟩ [x1, x2] (fun i => if i = 0 then e1 else e3) (some ⟨W3.heap.size, 0, none⟩) 2 (W3.alloc (.cells #[.pointer (some ⟨e1, 0, none⟩), .pointer (some ⟨e3, 0, none⟩)] 104)) (by simp) (fun i hi => ⟨W3.heap.size, rfl, two_ptrs i hi⟩) (fun b => w.heap.size ≤ b) (fun i hi => by
      match i, hi with
      | 0, _ => exact (HX2.out.rest hT3 hlt hl1).later hB
      | 1, _ => exact (hx3.wide hz2).later hB))
    have HR3 := hide (hR3.later hB)
    have HT3 := hide ((HT2.out.trans hT3).later hB)
    clear hx3 hR3 hT3 hB KE HX2 HT2
    go_wp2_with (go_at_call 85; refine KM.out.mono ?_)
    intro e W4 h4
    obtain ⟨e4, rfl, hl4, hx4, hB4⟩ := h4.xp
    have hl4' : w.heap.size ≤ e4 := by simp at hl4; omega
    have KX := hide (expectQ (HR3.out.later hB4) sShut)
    have HT4 := hide (HT3.out.later hB4)
    have HX4 : Hid (XP W4 (fun b => w.heap.size ≤ b) e4 (.node 8 a ⟨#[]⟩ false false false false [] [x1, x2])) := hx4.keep rfl fun b _ hs => ⟨by rcases hs with hs | hs; exact hs; simp at hs; omega, rfl⟩
    clear h4 hx4 hB4 KM HR3 HT3
    go_wp2_with (go_at_call 40; refine KX.out.mono ?_)
    intro e W5 h5
    rcases h5 with ⟨hc5, rfl, hR5, hT5⟩ | ⟨hc5, hth⟩
    rotate_left
    · have HF : Hid (RX w rb mv s fin.2 (ExR w fin.1) e W5) := RX.bad (lost_of hc5) (by rw [fp_of hc5]; exact hth) HT4.out (by rw [HFi.out]; exact Bdn.refl _)
      obtain ⟨fb, rfl, -⟩ := hth
      go_wp2_with fail
      exact ⟨rfl, HF.out⟩
    have HF : Hid (RX w rb mv s fin.2 (ExR w fin.1) (.returned (.pointer (some ⟨e4, 0, none⟩))) W5) := by
      rw [HFi.out]
      exact .inl ⟨hc5, ⟨e4, rfl, hl4', HX4.out.rest hT5 hlt hl4'⟩, hR5, HT4.out.trans hT5⟩
    clear hR5 hT5 KX HX4 HT4
    go_wp2_with fail
    go_ret
    exact HF.out
  · have hq' : st1.is sColon = false := by simpa using hq
    have HFi : Hid (fin = (x1, st1.must s sShut)) := hide (by rw [HFin.out, if_neg hq])
    rw [hq', if_neg (by simp)] at KT
    clear HFin HBad hq hq' hok1 hle1 ih
    go_wp2_with (go_at_call 58; refine KT.out.mono ?_)
    rintro e W4 ⟨rfl, hR4, hT4⟩
    have KX := hide (expectQ hR4 sShut)
    have HT4 := hide (HT1.out.trans hT4)
    have HX4 := hide (HX1.out.rest hT4 hlt hl1)
    clear hR4 hT4 KT HX1 HT1
    go_wp2_with (go_at_call 40; refine KX.out.mono ?_)
    intro e W5 h5
    rcases h5 with ⟨hc5, rfl, hR5, hT5⟩ | ⟨hc5, hth⟩
    rotate_left
    · have HF : Hid (RX w rb mv s fin.2 (ExR w fin.1) e W5) := RX.bad (lost_of hc5) (by rw [fp_of hc5]; exact hth) HT4.out (by rw [HFi.out]; exact Bdn.refl _)
      obtain ⟨fb, rfl, -⟩ := hth
      go_wp2_with fail
      exact ⟨rfl, HF.out⟩
    have HF : Hid (RX w rb mv s fin.2 (ExR w fin.1) (.returned (.pointer (some ⟨e1, 0, none⟩))) W5) := by
      rw [HFi.out]
      exact .inl ⟨hc5, ⟨e1, rfl, hl1, HX4.out.rest hT5 hlt hl1⟩, hR5, HT4.out.trans hT5⟩
    clear hR5 hT5 KX HX4 HT4
    go_wp2_with fail
    go_ret
    exact HF.out

/-- An atom, as the program comes to it. -/
theorem atom_cases {n : Nat} {E : FS → Ex × FS} {st : FS} (hc : st.code = 0) :
    (st.is sOpen = true → atomF s n E st = bracketX s E st.t.at_ (st.step s)) ∧
    (st.is sOpen = false → st.is sHole = true → atomF s n E st = (holeX st.t.at_, st.step s)) ∧
    (st.is sOpen = false → st.is sHole = false → (st.kin 1 = true ∨ st.is sAt = true) → atomF s n E st = nameX s n st.t.at_ (st.is sAt) (if st.is sAt = true then st.step s else st)) ∧
    (st.is sOpen = false → st.is sHole = false → st.kin 1 = false → st.is sAt = false → (atomF s n E st).2 = (univF s n st).2 ∧ ((univF s n st).2.code = 0 → (atomF s n E st).1 = sortX st.t.at_ (univF s n st).1)) := by
  have key : ∀ q r : ByteArray, st.is q = true → q ≠ r → st.is r = false := fun q r h hne => is_other h hne
  have k1 : ∀ q, st.is q = true → st.kin 1 = false := fun q h => by rw [kin_eq hc, (FS.is_kd h).2.1]; rfl
  refine ⟨fun h => ?_, fun h0 h => ?_, fun h0 h1 h => ?_, fun h0 h1 h2 h3 => ?_⟩
  · unfold atomF
    simp only [k1 _ h, key _ sAt h (by decide), key _ sHole h (by decide), key _ wProp h (by decide), key _ wType h (by decide), key _ wSort h (by decide), h]
    rfl
  · unfold atomF
    simp only [k1 _ h, key _ sAt h (by decide), h]
    rfl
  · unfold atomF
    by_cases hk : st.kin 1 = true
    · have hA : st.is sAt = false := by
        cases e : st.is sAt
        · rfl
        · rw [k1 _ e] at hk; cases hk
      rw [if_pos hk, hA, if_neg (by simp)]
    · have hA : st.is sAt = true := by rcases h with h | h; exact absurd h hk; exact h
      rw [if_neg hk, if_pos hA, hA, if_pos rfl]
  · unfold atomF univF
    simp only [h0, h1, h2, h3]
    by_cases hp : st.is wProp = true
    · simp [hp]
    · have hp' : st.is wProp = false := by simpa using hp
      by_cases ht : st.is wType = true
      · simp only [hp', ht]
        by_cases hk : (st.step s).kin 2 = true
        · simp [hk]
        · have hk' : (st.step s).kin 2 = false := by simpa using hk
          simp [hk']
      · have ht' : st.is wType = false := by simpa using ht
        by_cases hs' : st.is wSort = true
        · simp [hp', ht', hs']
        · have hs'' : st.is wSort = false := by simpa using hs'
          simp only [hp', ht', hs'']
          refine ⟨rfl, fun h => ?_⟩
          simp [FS.fail, hc] at h
end
end Go.Proofs.YtekfledccpeblaaGreatDoor

/- The contract of the reader's atom. -/
namespace Go.Proofs.YtekfledccpeblaaGreatDoor
open Go.RowKit

section
variable {rb : Nat} {mv : Value} {s : ByteArray}
set_option maxRecDepth 100000 in
set_option maxHeartbeats 8000000 in
theorem atom_calls (n : Nat) (hn : n ≤ 1000000) (ih : ExprC rb mv s n) (st : FS) (w : World) (h : Rdy w rb mv s st) (hl : st.left s ≤ n) :
    Calls Tryz.prog 102 #[.pointer (some ⟨rb, 0, none⟩)] w fun e w' => RX w rb mv s (atomF s n (exprN s n) st).2 (ExR w (atomF s n (exprN s n) st).1) e w' := by
  have H := hide h
  have hlt := h.lt
  have hc := h.code
  obtain ⟨k0, t0, -, d2, -⟩ := h.kind
  have KT := hide (tookQ h sOpen)
  obtain ⟨a1, a2, a3, a4⟩ := atom_cases (s := s) (n := n) (E := exprN s n) hc
  obtain ⟨fin, hfin⟩ : ∃ fin, fin = atomF s n (exprN s n) st := ⟨_, rfl⟩
  rw [← hfin] at a1 a2 a3 a4 ⊢
  clear hfin
  by_cases hq : st.is sOpen = true
  · have hkd := (FS.is_kd hq).2.1
    have hlef := FS.step_left h.ok hc (by omega) (by omega)
    have HFi := hide (a1 hq)
    have HB : Hid (∀ W, Rdy W rb mv s (st.step s) → Calls Tryz.prog 109 #[.pointer (some ⟨rb, 0, none⟩), .int .i64 (st.t.at_ : Nat)] W fun e w' => RX W rb mv s (bracketX s (exprN s n) st.t.at_ (st.step s)).2 (ExR W (bracketX s (exprN s n) st.t.at_ (st.step s)).1) e w') := fun W hW => bracketed_calls n _ ih _ W hW (by omega)
    rw [← HFi.out] at HB
    rw [hq, if_pos rfl] at KT
    clear h hq hkd hlef hl ih a1 a2 a3 a4 HFi
    generalize st.step s = st1 at *
    generalize st.t.at_ = ta at *
    go_enter Tryz.func102, Tryz.ntmps102
    go_wp2_with (go_at_call 58; refine KT.out.mono ?_)
    rintro e W1 ⟨rfl, hR1, hT1⟩
    have KB := hide (HB.out W1 hR1)
    have HT1 := hide hT1
    clear hR1 hT1 KT HB
    go_wp2_with (go_at_call 109; refine KB.out.mono ?_)
    intro e W2 h2
    rcases h2 with ⟨hc2, ⟨e2, rfl, hl2, hx2⟩, hR2, hT2⟩ | ⟨hc2, hth⟩
    rotate_left
    · have HF : Hid (RX w rb mv s fin.2 (ExR w fin.1) e W2) := RX.bad hc2 hth HT1.out (Bdn.refl _)
      obtain ⟨fb, rfl, -⟩ := hth
      go_wp2_with fail
      exact ⟨rfl, HF.out⟩
    have HF : Hid (RX w rb mv s fin.2 (ExR w fin.1) (.returned (.pointer (some ⟨e2, 0, none⟩))) W2) := .inl ⟨hc2, ⟨e2, rfl, Nat.le_trans HT1.out.size hl2, hx2.wide HT1.out.size⟩, hR2, HT1.out.trans hT2⟩
    clear hx2 hR2 hT2 KB
    go_wp2_with fail
    go_ret
    exact HF.out
  have hq' : st.is sOpen = false := by simpa using hq
  rw [hq', if_neg (by simp)] at KT
  have HT2 : Hid (∀ W, Rdy W rb mv s st → Calls Tryz.prog 58 #[.pointer (some ⟨rb, 0, none⟩), .string sHole] W fun e w' => e = .returned (.bool (st.is sHole)) ∧ Rdy w' rb mv s (if st.is sHole = true then st.step s else st) ∧ Touched W rb w') := fun W hW => tookQ hW sHole
  by_cases hi : st.is sHole = true
  · have HFi := hide (a2 hq' hi)
    rw [hi, if_pos rfl] at HT2
    have hco := step_code (s := s) hc
    clear h hq hq' hi hl ih a1 a2 a3 a4
    generalize st.step s = st1 at *
    generalize st.t.at_ = ta at *
    go_enter Tryz.func102, Tryz.ntmps102
    go_wp2_with (go_at_call 58; refine KT.out.mono ?_)
    rintro e W0 ⟨rfl, hR0, hT0⟩
    have KT2 := hide (HT2.out W0 hR0)
    have HT0 := hide hT0
    clear hR0 hT0 KT HT2
    go_wp2_with (go_at_call 58; refine KT2.out.mono ?_)
    rintro e W1 ⟨rfl, hR1, hT1⟩
    have KM := hide (nil_made 3 ta ⟨#[]⟩ W1)
    have HT1 := hide (HT0.out.trans hT1)
    have HR1 := hide hR1
    clear hR1 hT1 KT2 HT0
    go_wp2_with (go_at_call 85; refine KM.out.mono ?_)
    intro e W2 h2
    obtain ⟨e2, rfl, hl2, hx2, hB2⟩ := h2.xp
    have hz1 := HT1.out.size
    have HF : Hid (RX w rb mv s fin.2 (ExR w fin.1) (.returned (.pointer (some ⟨e2, 0, none⟩))) W2) := by
      rw [HFi.out]
      exact .inl ⟨hco, ⟨e2, rfl, by omega, hx2.keep rfl fun b _ hs => ⟨by rcases hs with hs | hs; exact hs.elim; omega, rfl⟩⟩, HR1.out.later hB2, HT1.out.later hB2⟩
    clear h2 hx2 hB2 KM
    go_wp2_with fail
    go_ret
    exact HF.out
  have hi' : st.is sHole = false := by simpa using hi
  rw [hi', if_neg (by simp)] at HT2
  have HKin : Hid (∀ W, Rdy W rb mv s st → ∃ (k : Nat) (t : ByteArray), W.cell? ⟨rb, 1, none⟩ = some (.int .i64 (k : Nat)) ∧ W.cell? ⟨rb, 2, none⟩ = some (.int .i64 (st.t.at_ : Nat)) ∧ W.cell? ⟨rb, 3, none⟩ = some (.string t) ∧ ((k : Int) == 1) = st.kin 1 ∧ Calls Tryz.prog 82 #[.agg #[.int .i64 (k : Nat), .int .i64 (st.t.at_ : Nat), .string t], .string sAt] W fun e w' => e = .returned (.bool (st.is sAt)) ∧ Below W.heap.size W w') := fun W hW => by
    have hk4 := hW.ok.kd
    obtain ⟨h0, c, k, t, r, hw, hp, hz⟩ := hW.rd
    refine ⟨k, t, hw.c1, hw.c2, hw.c3, ?_, ?_⟩
    · rw [kin_eq hc]
      by_cases h3 : st.t.kd ≤ 3
      · rw [(hp.good h3).1, Bool.eq_iff_iff]; simp; omega
      · have := (hp.bad (by omega)).1
        rw [Bool.eq_iff_iff]; simp; omega
    · have hq9 : st.is sAt = (decide ((k : Int) = 3) && decide (t = sAt)) := by
        rw [hp.is hk4]
        unfold FS.is
        rw [h0]
        rfl
      rw [hq9]
      exact is_calls (k : Nat) (st.t.at_ : Nat) t sAt W
  have HCd : Hid (∀ W, Rdy W rb mv s st → Calls Tryz.prog 110 #[.pointer (some ⟨rb, 0, none⟩), .int .i64 (st.t.at_ : Nat)] W fun e w' => RQ W rb mv s (nameX s n st.t.at_ (st.is sAt) (if st.is sAt = true then st.step s else st)).2 (ExR W (nameX s n st.t.at_ (st.is sAt) (if st.is sAt = true then st.step s else st)).1) e w') := fun W hW => called_calls n _ hn st W hW hl
  have HSo : Hid (∀ W, Rdy W rb mv s st → Calls Tryz.prog 111 #[.pointer (some ⟨rb, 0, none⟩), .int .i64 (st.t.at_ : Nat)] W fun e w' => RX W rb mv s (univF s n st).2 (ExR W (sortX st.t.at_ (univF s n st).1)) e w') := fun W hW => sort_calls n _ st W hW hl
  have HFi3 : Hid ((st.kin 1 = true ∨ st.is sAt = true) → fin = nameX s n st.t.at_ (st.is sAt) (if st.is sAt = true then st.step s else st)) := a3 hq' hi'
  have HFi4 : Hid (st.kin 1 = false → st.is sAt = false → fin.2 = (univF s n st).2 ∧ ((univF s n st).2.code = 0 → fin.1 = sortX st.t.at_ (univF s n st).1)) := a4 hq' hi'
  clear h hq hq' hi hi' hl ih a1 a2 a3 a4
  generalize nameX s n st.t.at_ (st.is sAt) (if st.is sAt = true then st.step s else st) = nx at *
  generalize univF s n st = ux at *
  generalize st.is sAt = bAt at *
  generalize st.kin 1 = b1 at *
  generalize st.t.at_ = ta at *
  have HGood : Hid (∀ W1, Touched w rb W1 → (b1 = true ∨ bAt = true) → ∀ e W2, RQ W1 rb mv s nx.2 (ExR W1 nx.1) e W2 → RX w rb mv s fin.2 (ExR w fin.1) e W2) := fun W1 hT1 hb e W2 h2 => by
    rw [HFi3.out hb]
    rcases h2.rx with ⟨hc2, ⟨e2, he, hl2, hx2⟩, hR2, hT2⟩ | ⟨hc2, hth⟩
    · exact .inl ⟨hc2, ⟨e2, he, Nat.le_trans hT1.size hl2, hx2.wide hT1.size⟩, hR2, hT1.trans hT2⟩
    · exact RX.bad hc2 hth hT1 (Bdn.refl _)
  have HGoodU : Hid (∀ W1, Touched w rb W1 → b1 = false → bAt = false → ∀ e W2, RX W1 rb mv s ux.2 (ExR W1 (sortX ta ux.1)) e W2 → RX w rb mv s fin.2 (ExR w fin.1) e W2) := fun W1 hT1 hb1 hb2 e W2 h2 => by
    obtain ⟨e1, e2'⟩ := HFi4.out hb1 hb2
    rw [e1]
    rcases h2 with ⟨hc2, ⟨e2, he, hl2, hx2⟩, hR2, hT2⟩ | ⟨hc2, hth⟩
    · rw [e2' hc2]
      exact .inl ⟨hc2, ⟨e2, he, Nat.le_trans hT1.size hl2, hx2.wide hT1.size⟩, hR2, hT1.trans hT2⟩
    · exact RX.bad hc2 hth hT1 (Bdn.refl _)
  clear HFi3 HFi4
  go_enter Tryz.func102, Tryz.ntmps102
  go_wp2_with (go_at_call 58; refine KT.out.mono ?_)
  rintro e W0 ⟨rfl, hR0, hT0⟩
  have KT2 := hide (HT2.out W0 hR0)
  have HT0 := hide hT0
  clear hR0 hT0 KT HT2
  go_wp2_with (go_at_call 58; refine KT2.out.mono ?_)
  rintro e W1 ⟨rfl, hR1, hT1⟩
  obtain ⟨k, t, q1, q2, q3, hk, KI⟩ := HKin.out W1 hR1
  have HKI := hide KI
  have HT1 := hide (HT0.out.trans hT1)
  have HR1 := hide hR1
  clear hR1 hT1 KT2 HT0 HKin KI
  cases b1 with
  | true =>
    have KC := hide (HCd.out W1 HR1.out)
    clear HCd HSo HGoodU
    go_wp2_with (go_at_call 110; refine KC.out.mono ?_)
    intro e W2 h2
    have HF := hide (HGood.out W1 HT1.out (by simp) e W2 h2)
    clear HGood
    rcases h2 with ⟨hc2, ⟨e2, rfl, -, -⟩, -, -⟩ | ⟨hc2, hth⟩
    · go_wp2_with fail
      go_ret
      exact HF.out
    · obtain ⟨fb, rfl, -⟩ := hth
      go_wp2_with fail
      exact ⟨rfl, HF.out⟩
  | false =>
    cases bAt with
    | true =>
      clear HSo HGoodU
      go_wp2_with (go_at_call 82; refine HKI.out.mono ?_)
      first | (intro e W9 he hb1; subst he) | (rintro e W9 ⟨rfl, hb1⟩)
      have KC := hide (HCd.out W9 (HR1.out.later hb1))
      have HT9 := hide (HT1.out.later hb1)
      clear hb1 HCd HR1 HT1
      go_wp2_with (go_at_call 110; refine KC.out.mono ?_)
      intro e W2 h2
      have HF := hide (HGood.out W9 HT9.out (by simp) e W2 h2)
      clear HGood
      rcases h2 with ⟨hc2, ⟨e2, rfl, -, -⟩, -, -⟩ | ⟨hc2, hth⟩
      · go_wp2_with fail
        go_ret
        exact HF.out
      · obtain ⟨fb, rfl, -⟩ := hth
        go_wp2_with fail
        exact ⟨rfl, HF.out⟩
    | false =>
      clear HCd HGood
      go_wp2_with (go_at_call 82; refine HKI.out.mono ?_)
      first | (intro e W9 he hb1; subst he) | (rintro e W9 ⟨rfl, hb1⟩)
      have KC := hide (HSo.out W9 (HR1.out.later hb1))
      have HT9 := hide (HT1.out.later hb1)
      clear hb1 HSo HR1 HT1
      go_wp2_with (go_at_call 111; refine KC.out.mono ?_)
      intro e W2 h2
      have HF := hide (HGoodU.out W9 HT9.out (by simp) (by simp) e W2 h2)
      clear HGoodU
      rcases h2 with ⟨hc2, ⟨e2, rfl, -, -⟩, -, -⟩ | ⟨hc2, hth⟩
      · go_wp2_with fail
        go_ret
        exact HF.out
      · obtain ⟨fb, rfl, -⟩ := hth
        go_wp2_with fail
        exact ⟨rfl, HF.out⟩
end
end Go.Proofs.YtekfledccpeblaaGreatDoor
