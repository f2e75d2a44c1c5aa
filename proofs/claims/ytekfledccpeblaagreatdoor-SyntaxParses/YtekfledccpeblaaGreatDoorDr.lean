/- The document's atoms: names with levels. -/
import Derived.Test.YtekfledccpeblaaGreatDoorDm

namespace Go.Proofs.YtekfledccpeblaaGreatDoor
open Go.RowKit

section
variable {fb eb : Nat} {s : ByteArray} {w W W7 : World} {st st0 : FS}
/-- A name and its levels, when all are read. -/
theorem Gw.named {ta : Nat} {nm : ByteArray} {ex : Bool} {ls : List LvB} {A : Option Addr} {c : Nat} {ys : List Value} (h : Gw InP 96 3 W7 fb s st eb 43 7 (nmC ta nm ex true (.slice A ls.length c)) ls A c ys W) (hB : ASt w fb s st0 W7) (hf : fb < w.heap.size) (hg : w.heap.size < eb) :
    BSt w fb s st eb (nmX ta nm ex true ls) (nmC ta nm ex true (.slice A ls.length c)) W := by
  have hl := hB.lt
  have he := h.elt
  refine ⟨h.ast hB hf hg, hg, h.at_, ?_⟩
  obtain ⟨A', c', e', hL⟩ := GRow.levels (ls := ls) h.row
  injection e' with e1 e2 e3
  subst e1
  exact InX.of (hL.keep fun b _ hb => ⟨⟨by rcases hb with hb | hb <;> omega, by rcases hb with hb | hb <;> omega⟩, rfl⟩) (XsIn.nil _ _ _)
end
section
variable {fb : Nat} {s : ByteArray} {w : World} {st : FS}
attribute [local go_sem ↓] ld43_eq st43_eq
set_option maxRecDepth 100000 in
set_option maxHeartbeats 8000000 in
theorem datom_levels (n : Nat) (hnn : n ≤ 900000) (h : DR w fb s st) (hl : st.left s ≤ n) (hn : st.kin 1 = true ∨ st.is sAt = true) (hq : ((if st.is sAt = true then st.step s else st).name s).2.is sLevels = true) :
    Calls Tryz.prog 88 #[.pointer (some ⟨fb, 0, none⟩)] w fun e w' => DQ w fb s (atomF s n (exprN s n) st).2 (DX w (atomF s n (exprN s n) st).1) e w' := by
  rw [atom_name hn]
  unfold nameX
  simp only
  rw [if_pos hq]
  have hlt := h.lt
  have hA0 := ASt.start h
  obtain ⟨d0, d1, d2, d3, d4, d5, d6, df⟩ := hA0.rd.cells
  have HI := hide (dis_calls hA0.rd sAt)
  obtain ⟨q1, hq2⟩ := some_name hn
  have hm := BSt.make hA0 hlt hA0.lt (nm_in (w.alloc (.cells zx 43)) (fun b => (w.alloc (.cells zx 43)).heap.size ≤ b) st.t.at_ ⟨#[]⟩ false false)
  have ST := hm.1
  have KA := hide (hm.2.accept hlt sAt)
  have HR : Hid (st.is sAt = true → Calls Tryz.prog 25 #[.pointer (some ⟨fb, 0, none⟩), .string sAt] (w.alloc (.cells zx 43)) fun e w' => e = .returned (.bool true) ∧ w' = (w.alloc (.cells zx 43))) := hide (fun hs => by have := HI.out; rw [hs] at this; exact this)
  have hd1 : Dn s st (if st.is sAt = true then st.step s else st) := by
    split
    · exact (Dn.refl h.ok).step
    · exact Dn.refl h.ok
  have hd2 := hd1.name
  have hk2 := FS.is_kd hq
  have hl3 := FS.step_left hd2.ok hk2.1 (by omega) (by omega)
  have HL3 : Hid ((((if st.is sAt = true then st.step s else st).name s).2.step s).left s < n) := hide (by have := hd2.left; omega)
  have HO3 := hide (hd2.step).ok
  clear h hn HI hm hd1 hd2 hk2 hl3 hl
  simp only
  generalize hta : st.t.at_ = ta at *
  generalize hex : st.is sAt = ex at *
  generalize (if ex = true then st.step s else st) = st1 at *
  generalize hnm : (st1.name s).1 = nm at *
  generalize hs2 : (st1.name s).2 = st2 at *
  have HN : Hid (∀ eb x xv W, BSt w fb s st1 eb x xv W → Calls Tryz.prog 27 #[.pointer (some ⟨fb, 0, none⟩)] W fun e w' => e = .returned (.string nm) ∧ BSt w fb s st2 eb x xv w') := hide (fun eb x xv W hB => by have := hB.name hlt; rw [hnm, hs2] at this; exact this)
  have HL : Hid (∀ eb x xv W, BSt w fb s st2 eb x xv W → Calls Tryz.prog 28 #[.pointer (some ⟨fb, 0, none⟩), .string sLevels] W fun e w' => e = .returned (.bool true) ∧ BSt w fb s (st2.step s) eb x xv w') := hide (fun eb x xv W hB => hB.yes hlt hq)
  clear hnm hs2 hq hta hA0
  generalize st2.step s = st3 at *
  have HV : Hid (∀ W, DR W fb s st3 → Calls Tryz.prog 98 #[.pointer (some ⟨fb, 0, none⟩)] W fun e w' => DQ W fb s (levelN s n st3).2 (LvR (fun b => W.heap.size ≤ b) (levelN s n st3).1) e w') := hide (fun W hW => dlevel_all n hnn st3 W hW HL3.out)
  have HLe : Hid ((levelN s n st3).2.left s < n) := hide (Nat.lt_of_le_of_lt (levelN_fwd n st3 HO3.out).left HL3.out)
  clear HL3 HO3
  generalize (levelN s n st3).1 = l0 at *
  generalize (levelN s n st3).2 = st4 at *
  obtain ⟨fin, hfin⟩ : ∃ fin, fin = levelsN s n n [l0] st4 := ⟨_, rfl⟩
  rw [← hfin]
  have HFi := hide hfin
  clear hfin
  obtain ⟨i0, hi, hz0, hz1, hz2⟩ := infoParts Tryz.info96'
  generalize hw0 : w.alloc (.cells zx 43) = W0 at *
  rcases hq2 with q2 | ⟨q2, hs⟩
  rotate_left
  have KR := hide (HR.out hs)
  all_goals
    clear hex
    try clear hs
    go_enter Tryz.func88, Tryz.ntmps88
    go_upto_region 1 with fail
    try rw [hw0]
    clear hw0
    go_upto_region 4 with (go_at_call 25; refine KR.out.mono ?_; rintro e w' ⟨rfl, hw'⟩; rw [hw']; clear hw')
    clear ST d0 d1 d2 d3 d4 d5 d6 df
    generalize (W0.alloc (.cells zx 43)).setCells W0.heap.size 0 _ = W1 at *
    generalize W0.heap.size = eb at *
    go_upto_region 5 with (go_at_call 28; refine KA.out.mono ?_; rintro e W2 ⟨rfl, hB2⟩; have c3 := hB2.cell 3 rfl; have cf := hB2.fr 3; have HB2 := hide hB2; clear hB2)
    have hB3 := HB2.out.put hlt 3 (.bool ex) (xv' := nmC ta ⟨#[]⟩ ex false nilV) rfl (nm_in _ _ ta ⟨#[]⟩ ex false)
    clear c3 cf HB2 KA
    generalize World.setCell W2 _ _ = W3 at *
    have KN := hide (HN.out _ _ _ _ hB3)
    clear hB3 HN
    go_upto_region 6 with (go_at_call 27; refine KN.out.mono ?_; rintro e W4 ⟨rfl, hB4⟩; have c3 := hB4.cell 2 rfl; have cf := hB4.fr 2; have HB4 := hide hB4; clear hB4)
    have hB5 := HB4.out.put hlt 2 (.string nm) (xv' := nmC ta nm ex false nilV) rfl (nm_in _ _ ta nm ex false)
    clear c3 cf HB4 KN
    generalize World.setCell W4 _ _ = W5 at *
    have KL := hide (HL.out _ _ _ _ hB5)
    clear hB5 HL
    go_upto_region 7 with (go_at_call 28; refine KL.out.mono ?_; rintro e W6 ⟨rfl, hB6⟩; have c3 := hB6.cell 4 rfl; have cf := hB6.fr 4; have HB6 := hide hB6; clear hB6)
    have hB7 := HB6.out.put hlt 4 (.bool true) (xv' := nmC ta nm ex true nilV) rfl (nm_in _ _ ta nm ex true)
    clear c3 cf HB6 KL
    generalize World.setCell W6 _ _ = W7 at *
    have hgt := hB7.gt
    have HG : Hid (Gw InP 96 3 W7 fb s st3 eb 43 7 (nmC ta nm ex true nilV) ([] : List LvB) none 0 [] W7) := Gw.start hB7.st.rd hB7.at_ (by omega) rfl
    have HA7 := hide hB7.st
    have c4 := hB7.cell 4 rfl
    have hel7 := HG.out.elt
    have c7 : W7.cell? ⟨eb, 7, none⟩ = some (.slice none 0 0) := HG.out.cell
    have KV := hide (HV.out _ (HG.out.drew keep_InP).rd)
    clear hB7 HV
    go_upto_region 8 with fail
    clear c4
    go_region_law (first
      | (refine step_val (f := 98) rfl ?_ KV.out ?_
         · simp [go_sem]
         intro e w5 h5
         obtain ⟨⟨k5, nm5, A5, n5, c5, rfl, hI5⟩, hR5, hT5⟩ := h5
         refine ⟨_, rfl, ?_⟩
         have HT5 : Hid (Touched W7 fb w5) := ((Touched.refl W7 fb).drew').trans hT5
         have HI5 : Hid (InP w5 (fun b => W7.heap.size ≤ b) l0 (.agg #[.int .i64 k5, .string nm5, .slice A5 n5 c5])) := hI5
         have HR5 := hide hR5
         have x5 : w5.cell? ⟨eb, 7, none⟩ = some (.slice none 0 0) := (HG.out.touched keep_InP hR5 HT5.out).cell
         have hel5 := (HG.out.touched keep_InP hR5 HT5.out).lt
         have hz5 := HT5.out.size
         have HO : Hid ((w5.alloc (.cells #[.int .i64 k5, .string nm5, .slice A5 n5 c5] 96)).ownsRow W7.heap.size 96 3 (.slice none 0 0) 0 []) := World.ownsRow_nil _ _ _ _
         clear hI5 hR5 hT5)
      | (refine step_append_own rfl (.tmp 47) (.tmp 50) 40 rfl W7.heap.size 96 i0 _ 3 48 Tryz.underlying40 hi hz0 hz1 hz2 rfl (by decide) (.slice none 0 0) 0 [] ?_ ?_ ⟨w5.heap.size, 0, none⟩ 1 1 [.int .i64 k5, .string nm5, .slice A5 n5 c5] ?_ rfl ?_ ?_ (by decide) ?_ ?_ ?_ ?_
         · rfl
         · exact HO.out
         · rfl
         · exact cells_new _ _ _
         · intro u hu; simp at hu; rcases hu with rfl | rfl | rfl <;> rfl
         · unfold maxLen; omega
         · omega
         · simp; omega
         intro v' w6 hown6 hgr6 hpl6
         obtain ⟨A6, c6, hv6, he6, hG6⟩ := Gw.push keep_InP HG.out HR5.out HT5.out HI5.out rfl hown6 hgr6 hpl6
         have hv7 : v' = .slice A6 1 c6 := hv6
         subst hv7
         have x6 := cell_of he6 7 (v := .slice none 0 0) rfl
         have f6 := frozen_of he6 7
         have HG6 := hide hG6
         clear hown6 hgr6 hpl6 hG6 he6 hv6))
    all_goals
      have HG8 : Hid (Gw InP 96 3 W7 fb s st4 eb 43 7 (nmC ta nm ex true (.slice A6 ([l0] : List LvB).length c6)) [l0] A6 c6 [.agg #[.int .i64 k5, .string nm5, .slice A5 n5 c5]] (w6.setCell ⟨eb, 7, none⟩ (.slice A6 1 c6))) := HG6.out
      clear HG6 HO HT5 HI5 HR5 x5 x6 f6 hz5 hel5 c7 KV HG
      generalize w6.setCell ⟨eb, 7, none⟩ _ = W8 at *
      go_wp2_with fail
      go_loopg [] n (fun g wr => ∃ (ls : List LvB) (st' : FS) (A : Option Addr) (c : Nat) (ys : List Value), Hid (levelsN s n g ls st' = fin) ∧ Hid (st'.left s < g) ∧ ls.length + g = n + 1 ∧ Hid (Gw InP 96 3 W7 fb s st' eb 43 7 (nmC ta nm ex true (.slice A ls.length c)) ls A c ys wr))
      case atStart => exact ⟨[l0], st4, A6, c6, _, HFi.out.symm, HLe.out, by simp; omega, HG8.out⟩
      case round =>
        clear HG8 HLe HFi
        obtain ⟨ls, st', A, c, ys, HE, HLt, hlen, HS⟩ := hrel
        obtain ⟨g', rfl⟩ : ∃ g', gk = g' + 1 := ⟨gk - 1, by have := HLt.out; omega⟩
        have hok := HS.out.rd.ok
        by_cases hp : st'.is sComma = true
        · have hkd := FS.is_kd hp
          have hlef := FS.step_left hok hkd.1 (by omega) (by omega)
          have HE2 : Hid (levelsN s n g' (ls ++ [(levelN s n (st'.step s)).1]) (levelN s n (st'.step s)).2 = fin) := hide (by have := HE.out; simp only [levelsN] at this; rw [if_pos hp] at this; exact this)
          have hdn := levelN_fwd n (st'.step s) hok.step
          have HL2 : Hid ((levelN s n (st'.step s)).2.left s < g') := hide (by have := hdn.left; have := HLt.out; omega)
          have HLv : Hid (∀ W, DR W fb s (st'.step s) → Calls Tryz.prog 98 #[.pointer (some ⟨fb, 0, none⟩)] W fun e w' => DQ W fb s (levelN s n (st'.step s)).2 (LvR (fun b => W.heap.size ≤ b) (levelN s n (st'.step s)).1) e w') := fun W hW => dlevel_all n hnn _ W hW (by have := HLt.out; omega)
          have KT := hide (HS.out.yes keep_InP hp)
          clear hdn hlef hkd hp hok HE HLt HS
          generalize (levelN s n (st'.step s)).1 = l2 at *
          generalize (levelN s n (st'.step s)).2 = st2 at *
          generalize st'.step s = sta at *
          go_upto_region 10 with (go_at_call 28; refine KT.out.mono ?_; rintro e W3 ⟨rfl, hG3⟩; have HG3 := hide hG3; have c7 := hG3.cell; have hel3 := hG3.lt; have hz3 := hG3.size; clear hG3)
          have KV := hide (HLv.out _ (HG3.out.drew keep_InP).rd)
          have hfl := HG3.out.flt
          clear KT HLv
          go_region_law (first
            | (refine step_val (f := 98) rfl ?_ KV.out ?_
               · simp [go_sem]
               intro e w5 h5
               obtain ⟨⟨k5, nm5, A5, n5, c5, rfl, hI5⟩, hR5, hT5⟩ := h5
               refine ⟨_, rfl, ?_⟩
               have HT5 : Hid (Touched W3 fb w5) := ((Touched.refl W3 fb).drew').trans hT5
               have HI5 : Hid (InP w5 (fun b => W3.heap.size ≤ b) l2 (.agg #[.int .i64 k5, .string nm5, .slice A5 n5 c5])) := hI5
               have HR5 := hide hR5
               have x5 := (HG3.out.touched keep_InP hR5 HT5.out).cell
               have hel5 := (HG3.out.touched keep_InP hR5 HT5.out).lt
               have hz5 := HT5.out.size
               have HO := hide ((HG3.out.row.touched (KL.keeps keep_InP _) HT5.out hfl).own.alloc (.cells #[.int .i64 k5, .string nm5, .slice A5 n5 c5] 96))
               clear hI5 hR5 hT5)
            | (refine step_append_own rfl (.tmp 56) (.tmp 59) 40 rfl W7.heap.size 96 i0 _ 3 48 Tryz.underlying40 hi hz0 hz1 hz2 rfl (by decide) (.slice A ls.length c) ls.length (flat ys) ?_ ?_ ⟨w5.heap.size, 0, none⟩ 1 1 [.int .i64 k5, .string nm5, .slice A5 n5 c5] ?_ rfl ?_ ?_ (by decide) ?_ ?_ ?_ ?_
               · rfl
               · exact HO.out
               · rfl
               · exact cells_new _ _ _
               · intro u hu; simp at hu; rcases hu with rfl | rfl | rfl <;> rfl
               · unfold maxLen; omega
               · omega
               · simp; omega
               intro v' w6 hown6 hgr6 hpl6
               obtain ⟨A6, c6, hv6, he6, hG6⟩ := Gw.push keep_InP HG3.out HR5.out HT5.out HI5.out rfl hown6 hgr6 hpl6
               have hv7 : v' = .slice A6 (ls.length + 1) c6 := by rw [hv6]; simp
               subst hv7
               have x6 := cell_of he6 7 (v := .slice A ls.length c) rfl
               have f6 := frozen_of he6 7
               have HG6 := hide hG6
               clear hown6 hgr6 hpl6 hG6 he6 hv6))
          all_goals
            have HG9 : Hid (Gw InP 96 3 W7 fb s st2 eb 43 7 (nmC ta nm ex true (.slice A6 (ls ++ [l2]).length c6)) (ls ++ [l2]) A6 c6 (ys ++ [.agg #[.int .i64 k5, .string nm5, .slice A5 n5 c5]]) (w6.setCell ⟨eb, 7, none⟩ (.slice A6 (ls.length + 1) c6))) := hide (by
              have hle : (ls ++ [l2]).length = ls.length + 1 := by simp
              have := HG6.out
              rw [hle]
              exact this)
            clear HG6 HO HT5 HI5 HR5 x5 x6 f6 hz5 hel5 c7 KV HG3
            generalize w6.setCell ⟨eb, 7, none⟩ _ = W9 at *
            go_wp2_with fail
            go_roundg g'
            case measure => omega
            case rel => exact ⟨ls ++ [l2], st2, A6, c6, _, HE2.out, HL2.out, by simp; omega, HG9.out⟩
        · have hp' : st'.is sComma = false := by simpa using hp
          have hfi : fin = (ls, st') := by rw [← HE.out, levels_stop hp']
          have KT := hide (HS.out.not keep_InP hp')
          subst hfi
          clear HE HLt hp hp' hok HS
          go_upto_region 11 with (go_at_call 28; refine KT.out.mono ?_; rintro e W3 ⟨rfl, hG3⟩; have KM := hide (hG3.must keep_InP sUnbrace); clear hG3)
          clear KT
          go_upto_region 12 with (go_at_call 29; refine KM.out.mono ?_; rintro e W4 ⟨rfl, hG4⟩; have hB4 := hG4.named HA7.out hlt hgt; have LD := hB4.load; have ST := hB4.stor; have HB4 := hide hB4; clear hG4 hB4)
          go_wp2_with fail
          exact HB4.out.st.ret hlt (HB4.out.inx.mono fun b hb => hb.1) rfl rfl
end
end Go.Proofs.YtekfledccpeblaaGreatDoor
