/- The document's group: binders in brackets. -/
import Derived.Test.YtekfledccpeblaaGreatDoorDt

namespace Go.Proofs.YtekfledccpeblaaGreatDoor
open Go.RowKit

theorem Tryz.underlying86 : Tryz.prog.underlying 86 = some (.slice 89) := by kernel_rfl
theorem Tryz.info89' : (Tryz.prog.info? 89).map (fun i => (i.zero, i.size, i.bytes)) = some (some (.agg #[.string ⟨#[]⟩, .bool false, .int .i64 0, .int .i64 0, .string ⟨#[]⟩, .bool false, .bool false, .bool false, .bool false, .slice none 0 0, .slice none 0 0, .int .i64 0]), 12, 120) := by kernel_rfl
section
variable {fb : Nat} {s : ByteArray}
theorem Gp.any {w W : World} {im : Bool} {xv xv' : Array Value} {n2 : List (ByteArray × Nat)} {N : Nat} {st : FS} {A : Option Addr} {c : Nat} (h : Gp w fb s im xv [] n2 N st A c W) : Gp w fb s im xv' [] n2 N st A c W := ⟨h.own, h.len, h.rd, h.old, h.lt⟩
/-- The variable of a type. -/
theorem type_made {W : World} {n0 : Nat} {x : Ex} {xv : Array Value} (hx : InX W (fun b => n0 ≤ b) x xv) : (st43 (.pointer (some ⟨W.heap.size, 0, none⟩)) (.agg xv)).run Tryz.prog (W.alloc (.cells zx 43)) = .ok () ((W.alloc (.cells zx 43)).setCells W.heap.size 0 xv.toList) ∧ ((W.alloc (.cells zx 43)).setCells W.heap.size 0 xv.toList).heap[W.heap.size]? = some (.cells xv 43 (0, 0)) ∧ InX ((W.alloc (.cells zx 43)).setCells W.heap.size 0 xv.toList) (fun b => n0 ≤ b) x xv ∧ ∀ m, Touched W m ((W.alloc (.cells zx 43)).setCells W.heap.size 0 xv.toList) := by
  have hn := heap_alloc_new W (.cells zx 43)
  have hr := heap_setCells xv.toList 0 _ _ hn
  rw [zx_wrote hx.size] at hr
  exact ⟨st43_run (by rw [hx.size]; exact there_of hn) hx.size hx.one, hr, hx.keep fun b hb hs => ⟨hs, (heap_setCells_ne (by omega) _ _ _).trans (Below.heap_alloc _ _ _ hb)⟩, fun m => (Touched.alloc W m (.cells zx 43)).setsNew (Nat.le_refl _) _ _⟩
theorem group_first {st : FS} (hp : st.is sOpen = true ∨ st.is sBrace = true) : (if st.is sBrace = true then st.step s else st.must s sOpen) = st.step s := by
  split
  · rfl
  · rename_i h1
    unfold FS.must
    rw [if_pos (by rcases hp with h | h; exact h; exact absurd h h1)]
theorem kin_cases {st : FS} (ho : st.Ok s) : (st.kin 1 = true ∧ ((st.code : Int) == 0) = true ∧ ((st.t.kd : Int) == 1) = true) ∨ (st.kin 1 = false ∧ ((st.code : Int) == 0) = true ∧ ((st.t.kd : Int) == 1) = false) ∨ (st.kin 1 = false ∧ ((st.code : Int) == 0) = false) := by
  rcases code_cases ho with h | h
  · have q1 : ((st.code : Int) == 0) = true := by rw [h]; rfl
    by_cases hk : st.t.kd = 1
    · exact .inl ⟨by unfold FS.kin; simp [h, hk], q1, by rw [hk]; rfl⟩
    · exact .inr (.inl ⟨by unfold FS.kin; simp [hk], q1, by simp; omega⟩)
  · exact .inr (.inr ⟨by unfold FS.kin; simp [h], by rw [h]; rfl⟩)
theorem kin_props {st : FS} : (st.kin 1 = true ∧ st.code = 0 ∧ st.t.kd = 1) ∨ (st.kin 1 = false ∧ ((st.code = 0 ∧ ¬ st.t.kd = 1) ∨ ¬ st.code = 0)) := by
  unfold FS.kin
  by_cases h : st.code = 0
  · by_cases hk : st.t.kd = 1
    · exact .inl ⟨by simp [h, hk], h, hk⟩
    · exact .inr ⟨by simp [hk], .inl ⟨h, hk⟩⟩
  · exact .inr ⟨by simp [h], .inr h⟩
theorem name_left {st : FS} (ho : st.Ok s) (h : (st.name s).2.kin 1 = true) : (st.name s).2.left s < st.left s := by
  by_cases hk : st.kin 1 = true
  · rw [name_kin hk]
    have : st.code = 0 ∧ st.t.kd = 1 := by unfold FS.kin at hk; simpa using hk
    exact FS.step_left ho this.1 (by omega) (by omega)
  · exfalso
    have hc : (st.name s).2.code ≠ 0 := by
      unfold FS.name
      rw [if_neg hk]
      unfold FS.fail
      split
      · simp
      · assumption
    unfold FS.kin at h
    simp at h
    exact hc h.1
end
section
variable {fb : Nat} {s : ByteArray} {w : World} {st : FS}
attribute [local go_sem ↓] ld43_eq st43_eq
set_option maxRecDepth 100000 in
set_option maxHeartbeats 8000000 in
theorem dgroup_calls (n : Nat) (hnn : n ≤ 900000) (ih : DExC fb s n) (h : DR w fb s st) (hp : st.is sOpen = true ∨ st.is sBrace = true) (hl : st.left s ≤ n) :
    Calls Tryz.prog 47 #[.pointer (some ⟨fb, 0, none⟩)] w fun e w' => DQ w fb s (groupF s n (exprN s n) st).2 (BsR w (groupF s n (exprN s n) st).1) e w' := by
  have hlt := h.lt
  have hst1 := group_first (s := s) hp
  unfold groupF
  simp only [hst1]
  have hkd : st.code = 0 ∧ st.t.kd = 3 := by rcases hp with h | h <;> exact ⟨(FS.is_kd h).1, (FS.is_kd h).2.1⟩
  have hlef := FS.step_left h.ok hkd.1 (by omega) (by omega)
  have HOk := hide h.ok.step
  have hdN := (namesN_fwd (s := s) (n + 1) []) (st.step s) h.ok.step
  have HLe : Hid ((st.step s).left s < n + 1) := hide (by omega)
  have HLN : Hid ((namesN s (n + 1) [] (st.step s)).2.left s < n) := hide (by have := hdN.left; omega)
  have HX : Hid (∀ W, DR W fb s ((namesN s (n + 1) [] (st.step s)).2.must s sColon) → Calls Tryz.prog 31 #[.pointer (some ⟨fb, 0, none⟩)] W fun e w' => DQ W fb s (exprN s n ((namesN s (n + 1) [] (st.step s)).2.must s sColon)).2 (DX W (exprN s n ((namesN s (n + 1) [] (st.step s)).2.must s sColon)).1) e w') := hide (fun W hW => ih _ W hW (by have := (hdN.must (q := sColon)).left; have := HLN.out; omega))
  have KA := hide (daccept_calls h sBrace)
  have HM1 : Hid (st.is sBrace = false → ∀ W, DR W fb s st → Calls Tryz.prog 29 #[.pointer (some ⟨fb, 0, none⟩), .string sOpen] W fun e w' => DQ W fb s (st.step s) (fun e _ => e = .returned (.tuple #[])) e w') := hide (fun hb W hW => by
    have := dmust_calls hW sOpen
    have e1 : st.must s sOpen = st.step s := by
      have := hst1
      rw [hb, if_neg (by simp)] at this
      exact this
    rw [e1] at this
    exact this)
  clear h hp hl hst1 hkd hlef hdN HLN ih
  generalize st.step s = st1 at *
  obtain ⟨fin, hfin⟩ : ∃ fin, fin = namesN s (n + 1) [] st1 := ⟨_, rfl⟩
  rw [← hfin] at HX ⊢
  generalize (exprN s n (fin.2.must s sColon)).1 = x at *
  generalize (exprN s n (fin.2.must s sColon)).2 = st4 at *
  have HFi := hide hfin
  obtain ⟨i0, hi, hz0, hz1, hz2⟩ := infoParts Tryz.info89'
  clear hfin
  cases him : st.is sBrace with
  | false =>
    rw [him] at KA
    simp only [Bool.false_eq_true, if_false] at KA ⊢
    have KM := HM1.out him
    go_enter Tryz.func47, Tryz.ntmps47
    go_wp2_with (go_at_call 28; refine KA.out.mono ?_)
    rintro e W0 ⟨rfl, hd, hT⟩
    have KM1 := hide (KM W0 hd)
    have HT0 := hide hT
    clear KM hd hT
    go_wp2_with (go_at_call 29; refine KM1.out.mono ?_)
    rintro e W1 ⟨rfl, hd, hT1⟩
    have hT := HT0.out.trans hT1
    clear hT1 KM1 HT0
    have HG0 : Hid (Gp w fb s false zx [] [] 0 st1 none 0 W1) := Gp.start hd hT hlt
    clear hd hT KA HM1 him
    go_wp2_with fail
    go_loopg [4] (n + 1) (fun g v wr => ∃ (n2 : List (ByteArray × Nat)) (st' : FS) (A : Option Addr) (c : Nat), v = .slice A n2.length c ∧ Hid (namesN s g n2 st' = fin) ∧ Hid (st'.left s < g) ∧ n2.length + g = n + 1 ∧ Hid (Gp w fb s false zx [] n2 n2.length st' A c wr))
    case atStart => exact ⟨[], st1, none, 0, rfl, HFi.out.symm, HLe.out, by simp, HG0.out⟩
    case round =>
      clear HG0 HLe HFi HOk
      obtain ⟨n2, st', A, c, rfl, HE, HLt, hlen, HS⟩ := hrel
      obtain ⟨g', rfl⟩ : ∃ g', gk = g' + 1 := ⟨gk - 1, by have := HLt.out; omega⟩
      have hok := HS.out.rd.ok
      have KN := hide (dname_calls HS.out.rd)
      obtain ⟨d0, d1, d2, d3, d4, d5, d6, df⟩ := HS.out.rd.cells
      have hk := kin_props (st := (st'.name s).2)
      have HE2 : Hid (((st'.name s).2.kin 1 = true ∧ namesN s g' (n2 ++ [((st'.name s).1, st'.t.at_)]) (st'.name s).2 = fin ∧ (st'.name s).2.left s < g') ∨ ((st'.name s).2.kin 1 = false ∧ fin = (n2 ++ [((st'.name s).1, st'.t.at_)], (st'.name s).2))) := hide (by
        have hE := HE.out
        simp only [namesN] at hE
        by_cases hq : (st'.name s).2.kin 1 = true
        · rw [if_pos hq] at hE
          exact .inl ⟨hq, hE, by have := name_left hok hq; have := HLt.out; omega⟩
        · rw [if_neg hq] at hE
          exact .inr ⟨by simpa using hq, hE.symm⟩)
      clear hok HE HLt
      generalize (st'.name s).1 = nm at *
      generalize (st'.name s).2 = st2 at *
      generalize st'.t.at_ = ta at *
      go_upto_region 7 with (go_at_call 27; refine KN.out.mono ?_; rintro e W4 ⟨rfl, hR4, hT4⟩; have hz4 := hT4.size; have HO4 := hide ((HS.out.own.kept (row := some fb) hT4 (.inr fun e => by have := (HS.out.own.lt _ e).1; omega)).alloc (.cells #[.string nm, .bool false, .int .i64 0, .int .i64 0, .string ⟨#[]⟩, .bool false, .bool false, .bool false, .bool false, .slice none 0 0, .slice none 0 0, .int .i64 (ta : Nat)] 89)); have HR4 := hide hR4; have HT4 := hide hT4; clear hR4 hT4)
      clear KN d0 d1 d2 d3 d4 d5 d6 df
      have hz3 := HS.out.old.size
      go_upto_region 8 with (at_builtin; refine wpList_append_placed _ rfl _ _ 86 rfl w.heap.size 89 i0 _ 12 120 Tryz.underlying86 hi hz0 hz1 hz2 rfl (by decide) (.slice A n2.length c) n2.length (flat (([] : List (ByteArray × Nat)).map (gbV false zx) ++ n2.map (gbV false zx))) rfl HO4.out ⟨W4.heap.size, 0, none⟩ 1 1 [.string nm, .bool false, .int .i64 0, .int .i64 0, .string ⟨#[]⟩, .bool false, .bool false, .bool false, .bool false, .slice none 0 0, .slice none 0 0, .int .i64 (ta : Nat)] rfl rfl (cells_new _ [.string nm, .bool false, .int .i64 0, .int .i64 0, .string ⟨#[]⟩, .bool false, .bool false, .bool false, .bool false, .slice none 0 0, .slice none 0 0, .int .i64 (ta : Nat)] _) (by intro u hu; simp at hu; rcases hu with rfl | rfl | rfl | rfl | rfl | rfl | rfl | rfl <;> rfl) (by decide) (by unfold maxLen; omega) (by omega) (by simp; omega) ?_; intro v' w6 hown6 hgr6 hpl6)
      obtain ⟨A6, c6, hv6, hG6⟩ := Gp.snoc (y := (nm, ta)) HS.out HR4.out HT4.out hown6 hgr6
      subst hv6
      obtain ⟨d0, d1, d2, d3, d4, d5, d6, df⟩ := hG6.rd.cells
      have HG6 := hide hG6
      clear hown6 hgr6 hpl6 hG6 HO4 HR4 HT4 HS
      rcases hk with ⟨k1, q1, q2⟩ | ⟨k1, hk⟩
      · have HE3 : Hid (namesN s g' (n2 ++ [(nm, ta)]) st2 = fin ∧ st2.left s < g') := hide (by
          rcases HE2.out with h | h
          · exact h.2
          · rw [k1] at h; exact absurd h.1 (by simp))
        clear HE2 k1
        go_wp2_with fail
        go_roundg g'
        case measure => omega
        case rel => exact ⟨n2 ++ [(nm, ta)], st2, A6, c6, by simp, HE3.out.1, HE3.out.2, by simp; omega, by have := HG6.out; rw [show (n2 ++ [(nm, ta)]).length = n2.length + 1 by simp]; exact this⟩
      · have hfi : fin = (n2 ++ [(nm, ta)], st2) := by
          rcases HE2.out with h | h
          · rw [k1] at h; exact absurd h.1 (by simp)
          · exact h.2
        subst hfi
        have KM := hide (dmust_calls HG6.out.rd sColon)
        clear HE2 k1
        generalize hN : n2.length + 1 = N at *
        obtain ⟨ns, hns⟩ : ∃ ns, ns = n2 ++ [(nm, ta)] := ⟨_, rfl⟩
        have HNs : Hid (ns.length = N) := hide (by rw [hns]; simp; exact hN)
        rw [← hns] at HG6
        have HNq := hide hns
        clear hns
        have hNb : N ≤ 900001 := by omega
        have hN0 : 0 < N := by omega
        clear hN
        rcases hk with ⟨q1, q2⟩ | q1
        all_goals
          go_upto_region 10 with (go_at_call 29; refine KM.out.mono ?_; rintro e W7 ⟨rfl, hd, hT⟩; have HG7 := hide (HG6.out.touched hd hT); have KX := hide (HX.out _ hd); clear hd hT)
          clear KM HX HG6 d0 d1 d2 d3 d4 d5 d6 df q1
          try clear q2
          go_upto_region 11 with (go_at_call 31; refine KX.out.mono ?_; rintro e W8 ⟨⟨xv, rfl, hx⟩, hd, hT⟩; have TM := hide (type_made hx); have ST := TM.out.1; have HG8 := hide (HG7.out.touched hd hT); have hz8 := hT.size; have HXz := hide hx.size; clear hx hd hT)
          clear ST KX
          obtain ⟨gb, rfl, hgb, hgl⟩ := HG7.out.block hN0
          have HG9 : Hid (Gp w fb s false xv [] ns N st4 (some ⟨gb, 0, none⟩) c6 ((W8.alloc (.cells zx 43)).setCells W8.heap.size 0 xv.toList)) := hide ((HG8.out.touched (HG8.out.rd.of_block ((TM.out.2.2.2 W8.heap.size).at HG8.out.rd.lt (by have := HG8.out.rd.lt; omega))) (TM.out.2.2.2 fb)).any)
          have Htb := hide TM.out.2.1
          have HX9 := hide TM.out.2.2.1
          clear TM HG8 HG7
          generalize (W8.alloc (.cells zx 43)).setCells W8.heap.size 0 xv.toList = W9 at *
          generalize hn0 : W7.heap.size = n0 at *
          generalize W8.heap.size = tb at *
          clear hn0
          go_wp2_with fail
          go_loopg [8] N (fun g v wr => ∃ (n1 n3 : List (ByteArray × Nat)), Hid (n1 ++ n3 = ns) ∧ v = .int .i64 (n1.length : Nat) ∧ n3.length = g ∧ Hid (Gp w fb s false xv n1 n3 N st4 (some ⟨gb, 0, none⟩) c6 wr) ∧ Hid (wr.heap[tb]? = some (.cells xv 43 (0, 0))) ∧ Hid (InX wr (fun b => n0 ≤ b) x xv))
          case atStart => exact ⟨[], ns, hide rfl, rfl, HNs.out, HG9.out, Htb.out, HX9.out⟩
          case round =>
            clear HG9 Htb HX9
            obtain ⟨n1, n3, HNN, rfl, hg3, HG, Htb, HXi⟩ := hrel
            have hsum := HG.out.len
            cases n3 with
            | cons y n3 =>
              have hsum' : n1.length + (n3.length + 1) = N := by simpa using hsum
              have hlt1 : n1.length < N := by omega
              have hty := HG.out.typed HXz.out
              have LD := ld43_run (block_range Htb.out) HXz.out
              have ST := st43_run (W := wr) (b := gb) (o := n1.length * 12 + 2) (v := xv) (by rw [HXz.out]; exact hty.1) HXz.out HXi.out.one
              have HG2 := hide hty.2.1
              have HT2 := hide hty.2.2
              clear hty hsum
              go_wp2_with fail
              go_roundg n3.length
              case measure => simp at hg3; omega
              case rel => exact ⟨n1 ++ [y], n3, hide (by have := HNN.out; simpa using this), by simp, rfl, HG2.out, (HT2.out.at ((Array.getElem?_eq_some_iff.1 Htb.out).1) (by omega)).trans Htb.out, HXi.out.keep fun b hb hs => ⟨hs, HT2.out.at hb (by have : n0 ≤ b := hs; omega)⟩⟩
            | nil =>
              have hge : ¬ n1.length < N := by simp at hsum; omega
              have e1 : n1 = ns := by simpa using HNN.out
              subst e1
              have KE := hide (dmust_calls HG.out.rd sShut)
              clear HNN hsum
              go_wp2_with (go_at_call 29; refine KE.out.mono ?_; rintro e W5 ⟨rfl, hd, hT⟩; have HF := hide (And.intro hd hT); clear hd hT)
              go_ret
              have hG5 := HG.out.touched HF.out.1 HF.out.2
              have hF : BdsIn W5 (fun b => w.heap.size ≤ b) (some ⟨gb, 0, none⟩) (n1.map fun y => ⟨y.1, false, x, y.2⟩) := hG5.done (HXi.out.keep fun b hb hs => ⟨by have : n0 ≤ b := hs; omega, HF.out.2.at hb (by have : n0 ≤ b := hs; omega)⟩)
              have hN3 := HNs.out
              rw [HNq.out] at hF hN3
              simp only [List.map_append, List.map_cons, List.map_nil] at hF
              simp at hN3
              exact ⟨⟨some ⟨gb, 0, none⟩, c6, by simp [hN3], hF⟩, HF.out.1, HG.out.old.trans HF.out.2⟩
  | true =>
    rw [him] at KA
    simp only [if_true] at KA ⊢
    skip
    go_enter Tryz.func47, Tryz.ntmps47
    go_wp2_with (go_at_call 28; refine KA.out.mono ?_)
    rintro e W0 ⟨rfl, hd, hT⟩
    obtain ⟨W1, hW1⟩ : ∃ W, W = W0 := ⟨_, rfl⟩
    subst hW1
    have HG0 : Hid (Gp w fb s true zx [] [] 0 st1 none 0 W1) := Gp.start hd hT hlt
    clear hd hT KA HM1 him
    go_wp2_with fail
    go_loopg [4] (n + 1) (fun g v wr => ∃ (n2 : List (ByteArray × Nat)) (st' : FS) (A : Option Addr) (c : Nat), v = .slice A n2.length c ∧ Hid (namesN s g n2 st' = fin) ∧ Hid (st'.left s < g) ∧ n2.length + g = n + 1 ∧ Hid (Gp w fb s true zx [] n2 n2.length st' A c wr))
    case atStart => exact ⟨[], st1, none, 0, rfl, HFi.out.symm, HLe.out, by simp, HG0.out⟩
    case round =>
      clear HG0 HLe HFi HOk
      obtain ⟨n2, st', A, c, rfl, HE, HLt, hlen, HS⟩ := hrel
      obtain ⟨g', rfl⟩ : ∃ g', gk = g' + 1 := ⟨gk - 1, by have := HLt.out; omega⟩
      have hok := HS.out.rd.ok
      have KN := hide (dname_calls HS.out.rd)
      obtain ⟨d0, d1, d2, d3, d4, d5, d6, df⟩ := HS.out.rd.cells
      have hk := kin_props (st := (st'.name s).2)
      have HE2 : Hid (((st'.name s).2.kin 1 = true ∧ namesN s g' (n2 ++ [((st'.name s).1, st'.t.at_)]) (st'.name s).2 = fin ∧ (st'.name s).2.left s < g') ∨ ((st'.name s).2.kin 1 = false ∧ fin = (n2 ++ [((st'.name s).1, st'.t.at_)], (st'.name s).2))) := hide (by
        have hE := HE.out
        simp only [namesN] at hE
        by_cases hq : (st'.name s).2.kin 1 = true
        · rw [if_pos hq] at hE
          exact .inl ⟨hq, hE, by have := name_left hok hq; have := HLt.out; omega⟩
        · rw [if_neg hq] at hE
          exact .inr ⟨by simpa using hq, hE.symm⟩)
      clear hok HE HLt
      generalize (st'.name s).1 = nm at *
      generalize (st'.name s).2 = st2 at *
      generalize st'.t.at_ = ta at *
      go_upto_region 7 with (go_at_call 27; refine KN.out.mono ?_; rintro e W4 ⟨rfl, hR4, hT4⟩; have hz4 := hT4.size; have HO4 := hide ((HS.out.own.kept (row := some fb) hT4 (.inr fun e => by have := (HS.out.own.lt _ e).1; omega)).alloc (.cells #[.string nm, .bool true, .int .i64 0, .int .i64 0, .string ⟨#[]⟩, .bool false, .bool false, .bool false, .bool false, .slice none 0 0, .slice none 0 0, .int .i64 (ta : Nat)] 89)); have HR4 := hide hR4; have HT4 := hide hT4; clear hR4 hT4)
      clear KN d0 d1 d2 d3 d4 d5 d6 df
      have hz3 := HS.out.old.size
      go_upto_region 8 with (at_builtin; refine wpList_append_placed _ rfl _ _ 86 rfl w.heap.size 89 i0 _ 12 120 Tryz.underlying86 hi hz0 hz1 hz2 rfl (by decide) (.slice A n2.length c) n2.length (flat (([] : List (ByteArray × Nat)).map (gbV true zx) ++ n2.map (gbV true zx))) rfl HO4.out ⟨W4.heap.size, 0, none⟩ 1 1 [.string nm, .bool true, .int .i64 0, .int .i64 0, .string ⟨#[]⟩, .bool false, .bool false, .bool false, .bool false, .slice none 0 0, .slice none 0 0, .int .i64 (ta : Nat)] rfl rfl (cells_new _ [.string nm, .bool true, .int .i64 0, .int .i64 0, .string ⟨#[]⟩, .bool false, .bool false, .bool false, .bool false, .slice none 0 0, .slice none 0 0, .int .i64 (ta : Nat)] _) (by intro u hu; simp at hu; rcases hu with rfl | rfl | rfl | rfl | rfl | rfl | rfl | rfl <;> rfl) (by decide) (by unfold maxLen; omega) (by omega) (by simp; omega) ?_; intro v' w6 hown6 hgr6 hpl6)
      obtain ⟨A6, c6, hv6, hG6⟩ := Gp.snoc (y := (nm, ta)) HS.out HR4.out HT4.out hown6 hgr6
      subst hv6
      obtain ⟨d0, d1, d2, d3, d4, d5, d6, df⟩ := hG6.rd.cells
      have HG6 := hide hG6
      clear hown6 hgr6 hpl6 hG6 HO4 HR4 HT4 HS
      rcases hk with ⟨k1, q1, q2⟩ | ⟨k1, hk⟩
      · have HE3 : Hid (namesN s g' (n2 ++ [(nm, ta)]) st2 = fin ∧ st2.left s < g') := hide (by
          rcases HE2.out with h | h
          · exact h.2
          · rw [k1] at h; exact absurd h.1 (by simp))
        clear HE2 k1
        go_wp2_with fail
        go_roundg g'
        case measure => omega
        case rel => exact ⟨n2 ++ [(nm, ta)], st2, A6, c6, by simp, HE3.out.1, HE3.out.2, by simp; omega, by have := HG6.out; rw [show (n2 ++ [(nm, ta)]).length = n2.length + 1 by simp]; exact this⟩
      · have hfi : fin = (n2 ++ [(nm, ta)], st2) := by
          rcases HE2.out with h | h
          · rw [k1] at h; exact absurd h.1 (by simp)
          · exact h.2
        subst hfi
        have KM := hide (dmust_calls HG6.out.rd sColon)
        clear HE2 k1
        generalize hN : n2.length + 1 = N at *
        obtain ⟨ns, hns⟩ : ∃ ns, ns = n2 ++ [(nm, ta)] := ⟨_, rfl⟩
        have HNs : Hid (ns.length = N) := hide (by rw [hns]; simp; exact hN)
        rw [← hns] at HG6
        have HNq := hide hns
        clear hns
        have hNb : N ≤ 900001 := by omega
        have hN0 : 0 < N := by omega
        clear hN
        rcases hk with ⟨q1, q2⟩ | q1
        all_goals
          go_upto_region 10 with (go_at_call 29; refine KM.out.mono ?_; rintro e W7 ⟨rfl, hd, hT⟩; have HG7 := hide (HG6.out.touched hd hT); have KX := hide (HX.out _ hd); clear hd hT)
          clear KM HX HG6 d0 d1 d2 d3 d4 d5 d6 df q1
          try clear q2
          go_upto_region 11 with (go_at_call 31; refine KX.out.mono ?_; rintro e W8 ⟨⟨xv, rfl, hx⟩, hd, hT⟩; have TM := hide (type_made hx); have ST := TM.out.1; have HG8 := hide (HG7.out.touched hd hT); have hz8 := hT.size; have HXz := hide hx.size; clear hx hd hT)
          clear ST KX
          obtain ⟨gb, rfl, hgb, hgl⟩ := HG7.out.block hN0
          have HG9 : Hid (Gp w fb s true xv [] ns N st4 (some ⟨gb, 0, none⟩) c6 ((W8.alloc (.cells zx 43)).setCells W8.heap.size 0 xv.toList)) := hide ((HG8.out.touched (HG8.out.rd.of_block ((TM.out.2.2.2 W8.heap.size).at HG8.out.rd.lt (by have := HG8.out.rd.lt; omega))) (TM.out.2.2.2 fb)).any)
          have Htb := hide TM.out.2.1
          have HX9 := hide TM.out.2.2.1
          clear TM HG8 HG7
          generalize (W8.alloc (.cells zx 43)).setCells W8.heap.size 0 xv.toList = W9 at *
          generalize hn0 : W7.heap.size = n0 at *
          generalize W8.heap.size = tb at *
          clear hn0
          go_wp2_with fail
          go_loopg [8] N (fun g v wr => ∃ (n1 n3 : List (ByteArray × Nat)), Hid (n1 ++ n3 = ns) ∧ v = .int .i64 (n1.length : Nat) ∧ n3.length = g ∧ Hid (Gp w fb s true xv n1 n3 N st4 (some ⟨gb, 0, none⟩) c6 wr) ∧ Hid (wr.heap[tb]? = some (.cells xv 43 (0, 0))) ∧ Hid (InX wr (fun b => n0 ≤ b) x xv))
          case atStart => exact ⟨[], ns, hide rfl, rfl, HNs.out, HG9.out, Htb.out, HX9.out⟩
          case round =>
            clear HG9 Htb HX9
            obtain ⟨n1, n3, HNN, rfl, hg3, HG, Htb, HXi⟩ := hrel
            have hsum := HG.out.len
            cases n3 with
            | cons y n3 =>
              have hsum' : n1.length + (n3.length + 1) = N := by simpa using hsum
              have hlt1 : n1.length < N := by omega
              have hty := HG.out.typed HXz.out
              have LD := ld43_run (block_range Htb.out) HXz.out
              have ST := st43_run (W := wr) (b := gb) (o := n1.length * 12 + 2) (v := xv) (by rw [HXz.out]; exact hty.1) HXz.out HXi.out.one
              have HG2 := hide hty.2.1
              have HT2 := hide hty.2.2
              clear hty hsum
              go_wp2_with fail
              go_roundg n3.length
              case measure => simp at hg3; omega
              case rel => exact ⟨n1 ++ [y], n3, hide (by have := HNN.out; simpa using this), by simp, rfl, HG2.out, (HT2.out.at ((Array.getElem?_eq_some_iff.1 Htb.out).1) (by omega)).trans Htb.out, HXi.out.keep fun b hb hs => ⟨hs, HT2.out.at hb (by have : n0 ≤ b := hs; omega)⟩⟩
            | nil =>
              have hge : ¬ n1.length < N := by simp at hsum; omega
              have e1 : n1 = ns := by simpa using HNN.out
              subst e1
              have KE := hide (dmust_calls HG.out.rd sUnbrace)
              clear HNN hsum
              go_wp2_with (go_at_call 29; refine KE.out.mono ?_; rintro e W5 ⟨rfl, hd, hT⟩; have HF := hide (And.intro hd hT); clear hd hT)
              go_ret
              have hG5 := HG.out.touched HF.out.1 HF.out.2
              have hF : BdsIn W5 (fun b => w.heap.size ≤ b) (some ⟨gb, 0, none⟩) (n1.map fun y => ⟨y.1, true, x, y.2⟩) := hG5.done (HXi.out.keep fun b hb hs => ⟨by have : n0 ≤ b := hs; omega, HF.out.2.at hb (by have : n0 ≤ b := hs; omega)⟩)
              have hN3 := HNs.out
              rw [HNq.out] at hF hN3
              simp only [List.map_append, List.map_cons, List.map_nil] at hF
              simp at hN3
              exact ⟨⟨some ⟨gb, 0, none⟩, c6, by simp [hN3], hF⟩, HF.out.1, HG.out.old.trans HF.out.2⟩
end
end Go.Proofs.YtekfledccpeblaaGreatDoor
