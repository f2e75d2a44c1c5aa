/- The document's groups: all binders in brackets. -/
import Derived.Test.YtekfledccpeblaaGreatDoorDu

namespace Go.Proofs.YtekfledccpeblaaGreatDoor
open Go.RowKit

section
variable {fb : Nat} {s : ByteArray} {w : World} {st : FS}
theorem group_left {n : Nat} {st' : FS} (hok : st'.Ok s) (hp2 : st'.is sOpen = true ∨ st'.is sBrace = true) : (groupF s n (exprN s n) st').2.left s < st'.left s := by
  have hkd : st'.code = 0 ∧ st'.t.kd = 3 := by rcases hp2 with h | h <;> exact ⟨(FS.is_kd h).1, (FS.is_kd h).2.1⟩
  have hlef := FS.step_left hok hkd.1 (by omega) (by omega)
  have hgd : (groupF s n (exprN s n) st').2.left s ≤ (st'.step s).left s := by
    unfold groupF
    simp only [group_first hp2]
    exact (((exprN_fwd (s := s) n).dn ((namesN_fwd (s := s) (n + 1) []).dn (Dn.refl hok.step)).must).must).left
  omega
/-- Binders are put behind those that were read: one step of a walk. -/
theorem Ro.src {W3 W4 : World} {l l2 : List Bd} {st2 st3 : FS} {A A4 : Option Addr} {c : Nat} {ys : List Value} (h : Ro BdP 89 12 w fb s l st3 A c ys W3) (hB4 : BdsIn W4 (fun b => W3.heap.size ≤ b) A4 l2) (hd : DR W4 fb s st2) (hT4 : Touched W3 fb W4) (hl2 : 0 < l2.length) {m : Nat} (hm : m = l2.length) :
    ∃ (sb : Nat) (vals : Nat → Array Value), A4 = some ⟨sb, 0, none⟩ ∧ W4.ownsRow w.heap.size 89 12 (.slice A l.length c) l.length (flat ys) ∧ (∀ j u, (flat ((List.range m).map fun i => Value.agg (vals i)))[j]? = some u → W4.cell? ((⟨sb, 0, none⟩ : Addr).add j) = some u) ∧ (flat ((List.range m).map fun i => Value.agg (vals i))).length = m * 12 ∧ (∀ u ∈ flat ((List.range m).map fun i => Value.agg (vals i)), u.oneCell' = true) ∧
      ∀ (rv : Value) (w6 : World), w6.ownsRow w.heap.size 89 12 rv (l.length + m) (flat ys ++ flat ((List.range m).map fun i => .agg (vals i))) → W4.grownBy w6 (Value.slice A l.length c).ownBlock → (rv.ownBlock = (Value.slice A l.length c).ownBlock ∨ rv.ownBlock = some W4.heap.size) → ∃ A6 c6 ys6, rv = .slice A6 (l ++ l2).length c6 ∧ Ro BdP 89 12 w fb s (l ++ l2) st2 A6 c6 ys6 w6 := by
  obtain ⟨sb, vals, rfl, hsb, hvz, hvc, hvp⟩ := hB4.vals hl2
  have hs4 := h.touched keep_BdP hd hT4
  refine ⟨sb, vals, rfl, hs4.row.own, ?_, ?_, one_cells fun i hi => (hvz i (by omega)).2, fun rv w6 ho hg hpl => ?_⟩
  · rw [hm]; exact src_cells (by decide) (fun i hi => (hvz i hi).1) hvc
  · rw [flat_len (z := 12) _ (fun i hi => by simp at hi; exact ⟨vals i, by simp, (hvz i (by omega)).1⟩)]
    simp
  · obtain ⟨A6, c6, e, hR⟩ := Ro.binders (l' := l2) hs4 hm hvz h.old.size (fun g e => (h.row.own.lt g e).2) hvp ho hg hpl
    exact ⟨A6, c6, _, e, hR⟩
set_option maxRecDepth 100000 in
set_option maxHeartbeats 8000000 in
theorem dgroups_calls (n : Nat) (hnn : n ≤ 900000) (ih : DExC fb s n) (h : DR w fb s st) (hl : st.left s < n) :
    Calls Tryz.prog 30 #[.pointer (some ⟨fb, 0, none⟩)] w fun e w' => DQ w fb s (groupsN s n (exprN s n) n [] st).2 (BsR w (groupsN s n (exprN s n) n [] st).1) e w' := by
  have hlt := h.lt
  obtain ⟨fin, hfin⟩ : ∃ fin, fin = groupsN s n (exprN s n) n [] st := ⟨_, rfl⟩
  rw [← hfin]
  have HFi := hide hfin
  have HLe := hide hl
  have HSt : Hid (Ro BdP 89 12 w fb s [] st none 0 [] w) := Ro.nil h (Touched.refl _ _) hlt
  obtain ⟨i0, hi, hz0, hz1, hz2⟩ := infoParts Tryz.info89'
  have hbig : n * (n + 1) ≤ 900000 * 900001 := Nat.mul_le_mul hnn (by omega)
  clear hfin h hl
  go_enter Tryz.func30, Tryz.ntmps30
  go_wp2_with fail
  go_loopg [3] n (fun g v wr => ∃ (l : List Bd) (st' : FS) (A : Option Addr) (c : Nat) (ys : List Value), v = .slice A l.length c ∧ Hid (groupsN s n (exprN s n) g l st' = fin) ∧ Hid (st'.left s < g) ∧ g ≤ n ∧ Hid (l.length + g * (n + 1) ≤ n * (n + 1)) ∧ Hid (Ro BdP 89 12 w fb s l st' A c ys wr))
  case atStart => exact ⟨[], st, none, 0, [], rfl, HFi.out.symm, HLe.out, Nat.le_refl _, hide (by simp), HSt.out⟩
  case round =>
    clear HSt HLe HFi
    obtain ⟨l, st', A, c, ys, rfl, HE, HLt, hgn, HLen, HS⟩ := hrel
    obtain ⟨g', rfl⟩ : ∃ g', gk = g' + 1 := ⟨gk - 1, by have := HLt.out; omega⟩
    have hok := HS.out.rd.ok
    have KO := hide (dis_calls HS.out.rd sOpen)
    have KB := hide (dis_calls HS.out.rd sBrace)
    by_cases hp2 : st'.is sOpen = true ∨ st'.is sBrace = true
    · have hgd := group_left (n := n) hok hp2
      have HE2 : Hid (groupsN s n (exprN s n) g' (l ++ (groupF s n (exprN s n) st').1) (groupF s n (exprN s n) st').2 = fin) := hide (by have := HE.out; simp only [groupsN] at this; rw [if_pos hp2] at this; exact this)
      have HL2 : Hid ((groupF s n (exprN s n) st').2.left s < g') := hide (by have := HLt.out; omega)
      have hgl := groupF_len (s := s) (n := n) (E := exprN s n) st'
      have HLe2 : Hid ((l ++ (groupF s n (exprN s n) st').1).length + g' * (n + 1) ≤ n * (n + 1)) := hide (by have := HLen.out; rw [Nat.succ_mul] at this; rw [List.length_append]; omega)
      have KG := hide (dgroup_calls n hnn ih HS.out.rd hp2 (by have := HLt.out; omega))
      have hlb : l.length + (groupF s n (exprN s n) st').1.length ≤ 900000 * 900001 := by have := HLe2.out; rw [List.length_append] at this; omega
      have hq : st'.is sOpen = true ∨ (st'.is sOpen = false ∧ st'.is sBrace = true) := by
        cases e : st'.is sOpen with
        | true => exact .inl rfl
        | false => rw [e] at hp2; exact .inr ⟨rfl, by simpa using hp2⟩
      clear hgd hp2 hok HE HLt HLen ih
      generalize (groupF s n (exprN s n) st').1 = l2 at *
      generalize (groupF s n (exprN s n) st').2 = st2 at *
      obtain ⟨m, hm⟩ : ∃ m, m = l2.length := ⟨_, rfl⟩
      have HM := hide hm
      rcases hq with q1 | ⟨q1, q2⟩
      rotate_left
      rw [q2] at KB
      all_goals
        rw [q1] at KO
        clear q1
        try clear q2
        go_upto_region 3 with (first | (go_at_call_of 25 (Value.string ⟨#[40]⟩); refine KO.out.mono ?_; rintro e W3 ⟨rfl, hw⟩; rw [hw]; clear hw) | (go_at_call_of 25 (Value.string ⟨#[123]⟩); refine KB.out.mono ?_; rintro e W3 ⟨rfl, hw⟩; rw [hw]; clear hw))
        clear KO KB
        go_wp2_with (go_at_call 47; refine KG.out.mono ?_)
        rintro e W4 ⟨⟨A4, c4, rfl, hB4⟩, hd, hT4⟩
        have hz3 := HS.out.old.size
        have hz4 := hT4.size
        obtain ⟨sb, vals, rfl, ho4, hvc, hfl, hoc, hnx⟩ := HS.out.src hB4 hd hT4 hgl.2 hm
        have HO4 := hide ho4
        have HVc := hide hvc
        have HFl := hide hfl
        have HOc := hide hoc
        have HNx := hide hnx
        rw [← hm] at hlb hgl
        rw [← hm]
        clear hvc hfl hoc hnx ho4 hB4 hd hT4 hm KG
        have hm0 : 0 < m := hgl.2
        go_wp2_with (at_builtin; refine wpList_append_placed _ rfl _ _ 86 rfl w.heap.size 89 i0 _ 12 120 Tryz.underlying86 hi hz0 hz1 hz2 rfl (by decide) (.slice A l.length c) l.length (flat ys) rfl HO4.out ⟨sb, 0, none⟩ m c4 (flat ((List.range m).map fun i => Value.agg (vals i))) rfl HFl.out HVc.out HOc.out hm0 (by unfold maxLen; omega) (by omega) (by omega) ?_)
        intro v' w6 hown6 hgr6 hpl6
        obtain ⟨A6, c6, ys6, hv6, hS6⟩ := HNx.out _ _ hown6 hgr6 hpl6
        subst hv6
        have HS6 := hide hS6
        clear hown6 hgr6 hpl6 hS6 HO4 HVc HFl HOc HNx HS
        go_wp2_with fail
        go_roundg g'
        case measure => omega
        case rel => exact ⟨l ++ l2, st2, A6, c6, _, by simp, HE2.out, HL2.out, by omega, HLe2.out, HS6.out⟩
    · have hpo : st'.is sOpen = false ∧ st'.is sBrace = false := by
        constructor
        · cases e : st'.is sOpen with | false => rfl | true => exact absurd (.inl e) hp2
        · cases e : st'.is sBrace with | false => rfl | true => exact absurd (.inr e) hp2
      have hfi : fin = (l, st') := by rw [← HE.out, groups_stop hpo.1 hpo.2]
      rw [hpo.1] at KO
      rw [hpo.2] at KB
      subst hfi
      have HF : Hid (DQ w fb s st' (BsR w l) (.returned (.slice A l.length c)) wr) := by
        obtain ⟨A', c', e', hL⟩ := GRow.bds (l := l) HS.out.row
        injection e' with e1 e2 e3
        subst e1
        exact ⟨⟨A, c, rfl, hL⟩, HS.out.rd, HS.out.old⟩
      clear HE HLt hp2 hpo hok HS ih
      go_wp2_with (first | (go_at_call_of 25 (Value.string ⟨#[40]⟩); refine KO.out.mono ?_; rintro e W3 ⟨rfl, hw⟩; rw [hw]; clear hw) | (go_at_call_of 25 (Value.string ⟨#[123]⟩); refine KB.out.mono ?_; rintro e W3 ⟨rfl, hw⟩; rw [hw]; clear hw))
      go_ret
      exact HF.out
end
end Go.Proofs.YtekfledccpeblaaGreatDoor

/- The document's funs: the binders of fun. -/
namespace Go.Proofs.YtekfledccpeblaaGreatDoor
open Go.RowKit

section
variable {fb : Nat} {s : ByteArray} {w : World} {st : FS}
theorem funs_end {n : Nat} {E : FS → Ex × FS} {st : FS} (h0 : st.kin 1 = false) (h1 : ¬ (st.is sOpen = true ∨ st.is sBrace = true)) (m : Nat) (l : List Bd) : funsN s n E m l st = (l, st) := by
  cases m with
  | zero => rfl
  | succ m => simp only [funsN]; rw [if_neg (by rw [h0]; simp), if_neg h1]
/-- What may come in funs. -/
theorem funs_cases (st : FS) : (st.kin 1 = true ∧ st.code = 0 ∧ st.t.kd = 1) ∨ (st.kin 1 = false ∧ st.code = 0 ∧ ¬ st.t.kd = 1 ∧ st.is sOpen = true) ∨ (st.kin 1 = false ∧ st.code = 0 ∧ ¬ st.t.kd = 1 ∧ st.is sOpen = false ∧ st.is sBrace = true) ∨
    (st.kin 1 = false ∧ ¬ (st.is sOpen = true ∨ st.is sBrace = true) ∧ ((st.code = 0 ∧ ¬ st.t.kd = 1 ∧ st.is sOpen = false ∧ st.is sBrace = false) ∨ ¬ st.code = 0)) := by
  rcases kin_props (st := st) with h | ⟨h0, ⟨h1, h2⟩ | h1⟩
  · exact .inl h
  · cases ho : st.is sOpen with
    | true => exact .inr (.inl ⟨h0, h1, h2, rfl⟩)
    | false =>
      cases hb : st.is sBrace with
      | true => exact .inr (.inr (.inl ⟨h0, h1, h2, rfl, rfl⟩))
      | false => exact .inr (.inr (.inr ⟨h0, by simp, .inl ⟨h1, h2, rfl, rfl⟩⟩))
  · refine .inr (.inr (.inr ⟨h0, fun h => ?_, .inr h1⟩))
    rcases h with h | h <;> exact h1 (FS.is_kd h).1
set_option maxRecDepth 100000 in
set_option maxHeartbeats 8000000 in
theorem dfuns_calls (n : Nat) (hnn : n ≤ 900000) (ih : DExC fb s n) (h : DR w fb s st) (hl : st.left s < n) :
    Calls Tryz.prog 48 #[.pointer (some ⟨fb, 0, none⟩)] w fun e w' => DQ w fb s (funsN s n (exprN s n) n [] st).2 (BsR w (funsN s n (exprN s n) n [] st).1) e w' := by
  have hlt := h.lt
  obtain ⟨fin, hfin⟩ : ∃ fin, fin = funsN s n (exprN s n) n [] st := ⟨_, rfl⟩
  rw [← hfin]
  have HFi := hide hfin
  have HLe := hide hl
  have HSt : Hid (Ro BdP 89 12 w fb s [] st none 0 [] w) := Ro.nil h (Touched.refl _ _) hlt
  obtain ⟨i0, hi, hz0, hz1, hz2⟩ := infoParts Tryz.info89'
  have hbig : n * (n + 1) ≤ 900000 * 900001 := Nat.mul_le_mul hnn (by omega)
  clear hfin h hl
  go_enter Tryz.func48, Tryz.ntmps48
  go_wp2_with fail
  go_loopg [3] n (fun g v wr => ∃ (l : List Bd) (st' : FS) (A : Option Addr) (c : Nat) (ys : List Value), v = .slice A l.length c ∧ Hid (funsN s n (exprN s n) g l st' = fin) ∧ Hid (st'.left s < g) ∧ g ≤ n ∧ Hid (l.length + g * (n + 1) ≤ n * (n + 1)) ∧ Hid (Ro BdP 89 12 w fb s l st' A c ys wr))
  case atStart => exact ⟨[], st, none, 0, [], rfl, HFi.out.symm, HLe.out, Nat.le_refl _, hide (by simp), HSt.out⟩
  case round =>
    clear HSt HLe HFi
    obtain ⟨l, st', A, c, ys, rfl, HE, HLt, hgn, HLen, HS⟩ := hrel
    obtain ⟨g', rfl⟩ : ∃ g', gk = g' + 1 := ⟨gk - 1, by have := HLt.out; omega⟩
    have hok := HS.out.rd.ok
    have KO := hide (dis_calls HS.out.rd sOpen)
    have KB := hide (dis_calls HS.out.rd sBrace)
    obtain ⟨d0, d1, d2, d3, d4, d5, d6, df⟩ := HS.out.rd.cells
    rcases funs_cases st' with ⟨hk, q1, q2⟩ | hq | hq | ⟨hk, hno, hq⟩
    · have hlef := FS.step_left hok q1 (by omega) (by omega)
      have HE2 : Hid (funsN s n (exprN s n) g' (l ++ [⟨st'.t.t, false, holeX st'.t.at_, st'.t.at_⟩]) (st'.step s) = fin) := hide (by have := HE.out; simp only [funsN] at this; rw [if_pos hk, name_kin hk] at this; exact this)
      have HL2 : Hid ((st'.step s).left s < g') := hide (by have := HLt.out; omega)
      have HLe2 : Hid ((l ++ [(⟨st'.t.t, false, holeX st'.t.at_, st'.t.at_⟩ : Bd)]).length + g' * (n + 1) ≤ n * (n + 1)) := hide (by have := HLen.out; rw [Nat.succ_mul] at this; rw [List.length_append, List.length_singleton]; omega)
      have hlb : l.length + 1 ≤ 900000 * 900001 := by have := HLe2.out; rw [List.length_append, List.length_singleton] at this; omega
      have KN := dname_calls HS.out.rd
      rw [name_kin hk] at KN
      simp only at KN
      have KN := hide KN
      clear hlef hk hok HE HLt HLen ih KO KB
      generalize st'.step s = st2 at *
      generalize st'.t.t = nm2 at *
      generalize st'.t.at_ = ta2 at *
      go_upto_region 6 with (go_at_call 27; refine KN.out.mono ?_; rintro e W4 ⟨rfl, hR4, hT4⟩; have hz3 := HS.out.old.size; have hz4 := hT4.size; have HO4 := hide ((HS.out.row.touched (KL.keeps keep_BdP _) hT4 hlt).own.alloc (.cells #[.string nm2, .bool false, .int .i64 3, .int .i64 (ta2 : Nat), .string ⟨#[]⟩, .bool false, .bool false, .bool false, .bool false, .slice none 0 0, .slice none 0 0, .int .i64 (ta2 : Nat)] 89)); have HR4 := hide hR4; have HT4 := hide hT4; clear hR4 hT4)
      clear KN d0 d1 d2 d3 d4 d5 d6 df q1 q2
      go_wp2_with (at_builtin; refine wpList_append_placed _ rfl _ _ 86 rfl w.heap.size 89 i0 _ 12 120 Tryz.underlying86 hi hz0 hz1 hz2 rfl (by decide) (.slice A l.length c) l.length (flat ys) rfl HO4.out ⟨W4.heap.size, 0, none⟩ 1 1 [.string nm2, .bool false, .int .i64 3, .int .i64 (ta2 : Nat), .string ⟨#[]⟩, .bool false, .bool false, .bool false, .bool false, .slice none 0 0, .slice none 0 0, .int .i64 (ta2 : Nat)] rfl rfl (cells_new _ [.string nm2, .bool false, .int .i64 3, .int .i64 (ta2 : Nat), .string ⟨#[]⟩, .bool false, .bool false, .bool false, .bool false, .slice none 0 0, .slice none 0 0, .int .i64 (ta2 : Nat)] _) (by intro u hu; simp at hu; rcases hu with rfl | rfl | rfl | rfl | rfl | rfl | rfl | rfl <;> rfl) (by decide) (by unfold maxLen; omega) (by omega) (by simp; omega) ?_)
      intro v' w6 hown6 hgr6 hpl6
      obtain ⟨A6, c6, hv6, hS6⟩ := Ro.snoc keep_BdP (x := (⟨nm2, false, holeX ta2, ta2⟩ : Bd)) HS.out HR4.out HT4.out (holeP nm2 ta2) rfl hown6 hgr6 (by simpa using hpl6)
      subst hv6
      have HS6 := hide hS6
      clear hown6 hgr6 hpl6 hS6 HO4 HR4 HT4 HS
      go_wp2_with fail
      go_roundg g'
      case measure => omega
      case rel => exact ⟨l ++ [(⟨nm2, false, holeX ta2, ta2⟩ : Bd)], st2, A6, c6, _, by simp, HE2.out, HL2.out, by omega, HLe2.out, HS6.out⟩
    rotate_left
    rotate_left
    · have HF : Hid (DQ w fb s fin.2 (BsR w fin.1) (.returned (.slice A l.length c)) wr) := by
        have hfi : fin = (l, st') := by rw [← HE.out, funs_end hk hno]
        obtain ⟨A', c', e', hL⟩ := GRow.bds (l := l) HS.out.row
        injection e' with e1 e2 e3
        subst e1
        rw [hfi]
        exact ⟨⟨A, c, rfl, hL⟩, HS.out.rd, HS.out.old⟩
      clear HE HLt hk hno hok HS ih HLen
      rcases hq with ⟨q1, q2, q3, q4⟩ | q1
      · rw [q3] at KO
        rw [q4] at KB
        clear q3 q4
        go_wp2_with (first | (go_at_call_of 25 (Value.string ⟨#[40]⟩); refine KO.out.mono ?_; rintro e W3 ⟨rfl, hw⟩; rw [hw]; clear hw) | (go_at_call_of 25 (Value.string ⟨#[123]⟩); refine KB.out.mono ?_; rintro e W3 ⟨rfl, hw⟩; rw [hw]; clear hw))
        go_ret
        exact HF.out
      · go_wp2_with fail
        go_ret
        exact HF.out
    all_goals
      have hp2 : st'.is sOpen = true ∨ st'.is sBrace = true := by first | exact .inl hq.2.2.2 | exact .inr hq.2.2.2.2
      have hk := hq.1
      have q1 := hq.2.1
      have q2 := hq.2.2.1
      have hgd := group_left (n := n) hok hp2
      have HE2 : Hid (funsN s n (exprN s n) g' (l ++ (groupF s n (exprN s n) st').1) (groupF s n (exprN s n) st').2 = fin) := hide (by have := HE.out; simp only [funsN] at this; rw [if_neg (by rw [hk]; simp), if_pos hp2] at this; exact this)
      have HL2 : Hid ((groupF s n (exprN s n) st').2.left s < g') := hide (by have := HLt.out; omega)
      have hgl := groupF_len (s := s) (n := n) (E := exprN s n) st'
      have HLe2 : Hid ((l ++ (groupF s n (exprN s n) st').1).length + g' * (n + 1) ≤ n * (n + 1)) := hide (by have := HLen.out; rw [Nat.succ_mul] at this; rw [List.length_append]; omega)
      have KG := hide (dgroup_calls n hnn ih HS.out.rd hp2 (by have := HLt.out; omega))
      have hlb : l.length + (groupF s n (exprN s n) st').1.length ≤ 900000 * 900001 := by have := HLe2.out; rw [List.length_append] at this; omega
      try (rw [hq.2.2.2.2] at KB)
      first | rw [hq.2.2.2] at KO | rw [hq.2.2.2.1] at KO
      clear hgd hp2 hok HE HLt HLen ih hq hk
      generalize (groupF s n (exprN s n) st').1 = l2 at *
      generalize (groupF s n (exprN s n) st').2 = st2 at *
      obtain ⟨m, hm⟩ : ∃ m, m = l2.length := ⟨_, rfl⟩
      have HM := hide hm
      go_upto_region 7 with (first | (go_at_call_of 25 (Value.string ⟨#[40]⟩); refine KO.out.mono ?_; rintro e W3 ⟨rfl, hw⟩; rw [hw]; clear hw) | (go_at_call_of 25 (Value.string ⟨#[123]⟩); refine KB.out.mono ?_; rintro e W3 ⟨rfl, hw⟩; rw [hw]; clear hw))
      clear KO KB d0 d1 d2 d3 d4 d5 d6 df q1 q2
      go_wp2_with (go_at_call 47; refine KG.out.mono ?_)
      rintro e W4 ⟨⟨A4, c4, rfl, hB4⟩, hd, hT4⟩
      have hz3 := HS.out.old.size
      have hz4 := hT4.size
      obtain ⟨sb, vals, rfl, ho4, hvc, hfl, hoc, hnx⟩ := HS.out.src hB4 hd hT4 hgl.2 hm
      have HO4 := hide ho4
      have HVc := hide hvc
      have HFl := hide hfl
      have HOc := hide hoc
      have HNx := hide hnx
      rw [← hm] at hlb hgl
      rw [← hm]
      clear hvc hfl hoc hnx ho4 hB4 hd hT4 hm KG
      have hm0 : 0 < m := hgl.2
      go_wp2_with (at_builtin; refine wpList_append_placed _ rfl _ _ 86 rfl w.heap.size 89 i0 _ 12 120 Tryz.underlying86 hi hz0 hz1 hz2 rfl (by decide) (.slice A l.length c) l.length (flat ys) rfl HO4.out ⟨sb, 0, none⟩ m c4 (flat ((List.range m).map fun i => Value.agg (vals i))) rfl HFl.out HVc.out HOc.out hm0 (by unfold maxLen; omega) (by omega) (by omega) ?_)
      intro v' w6 hown6 hgr6 hpl6
      obtain ⟨A6, c6, ys6, hv6, hS6⟩ := HNx.out _ _ hown6 hgr6 hpl6
      subst hv6
      have HS6 := hide hS6
      clear hown6 hgr6 hpl6 hS6 HO4 HVc HFl HOc HNx HS
      go_wp2_with fail
      go_roundg g'
      case measure => omega
      case rel => exact ⟨l ++ l2, st2, A6, c6, _, by simp, HE2.out, HL2.out, by omega, HLe2.out, HS6.out⟩
end
end Go.Proofs.YtekfledccpeblaaGreatDoor
