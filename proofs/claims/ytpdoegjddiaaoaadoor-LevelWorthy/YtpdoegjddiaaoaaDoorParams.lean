/- The contract of Params of package level: a walk by a closure over a map and a slice. -/
import Derived.Test.YtpdoegjddiaaoaaDoorGates
import Derived.Test.YtpdoegjddiaaoaaDoorRefParams
import Derived.Laws.EntriesVeiled
namespace Go.Proofs.YtpdoegjddiaaoaaDoor
open Go.RowKit Go.Maps

/-- Blocks that the walk over parameters leaves alone: all old ones but the map, the variable of the names and their row. -/
def PGrew (w : World) (v : Value) (m c : Nat) (w' : World) (v' : Value) : Prop :=
  (w'.os = w.os ∧ w'.tape = w.tape ∧ w'.output = w.output) ∧ w.heap.size ≤ w'.heap.size ∧ (∀ k, k < w.heap.size → k ≠ m → k ≠ c → some k ≠ v.ownBlock → w'.heap[k]? = w.heap[k]?) ∧ (v'.ownBlock = v.ownBlock ∨ ∀ k, v'.ownBlock = some k → w.heap.size ≤ k)

theorem PGrew.refl (w : World) (v : Value) (m c : Nat) : PGrew w v m c w v := ⟨⟨rfl, rfl, rfl⟩, Nat.le_refl _, fun _ _ _ _ _ => rfl, .inl rfl⟩
theorem PGrew.trans {w w' w'' : World} {v v' v'' : Value} {m c : Nat} (h : PGrew w v m c w' v') (h' : PGrew w' v' m c w'' v'') : PGrew w v m c w'' v'' := by
  obtain ⟨⟨o1, t1, p1⟩, s1, b1, l1⟩ := h
  obtain ⟨⟨o2, t2, p2⟩, s2, b2, l2⟩ := h'
  refine ⟨⟨o2.trans o1, t2.trans t1, p2.trans p1⟩, Nat.le_trans s1 s2, fun k hk h1 h2 h3 => ?_, ?_⟩
  · refine (b2 k (by omega) h1 h2 ?_).trans (b1 k hk h1 h2 h3)
    rcases l1 with e | e
    · rw [e]; exact h3
    · intro e'; have := e k e'.symm; omega
  · rcases l2 with e | e
    · rw [e]; exact l1
    · exact .inr fun k hk => Nat.le_trans s1 (e k hk)
theorem PGrew.alloc (w : World) (v : Value) (m c : Nat) (o : Obj) : PGrew w v m c (w.alloc o) v :=
  ⟨⟨rfl, rfl, rfl⟩, by simp, fun k hk _ _ _ => Below.heap_alloc _ _ _ hk, .inl rfl⟩
theorem PGrew.cell {w w' : World} {v v' : Value} {m c : Nat} (h : PGrew w v m c w' v') {p : Addr} (hp : p.block < w.heap.size) (h1 : p.block ≠ m) (h2 : p.block ≠ c) (h3 : some p.block ≠ v.ownBlock) : w'.cell? p = w.cell? p :=
  World.cell?_of_block (h.2.2.1 p.block hp h1 h2 h3)
theorem PGrew.below {w w' : World} {v v' : Value} {m c B : Nat} (h : PGrew w v m c w' v') (hB : B ≤ w.heap.size) (h1 : B ≤ m) (h2 : B ≤ c) (h3 : ∀ k, v.ownBlock = some k → B ≤ k) : Below B w w' :=
  ⟨h.1.1, h.1.2.1, h.1.2.2, h.2.1, fun k hk => h.2.2.1 k (by omega) (by omega) (by omega) (fun e => by have := h3 k e.symm; omega)⟩
theorem PGrew.put {w w' : World} {v : Value} {m c : Nat} (h : w.grownBy w' (some m)) : PGrew w v m c w' v :=
  ⟨⟨h.os, h.tape, h.output⟩, h.size, fun k hk h1 _ _ => h.block k hk (fun e => h1 (by injection e)), .inl rfl⟩
theorem PGrew.app {w w' : World} {v v' : Value} {m c : Nat} (h : w.grownBy w' v.ownBlock) (hp : v'.ownBlock = v.ownBlock ∨ v'.ownBlock = some w.heap.size) : PGrew w v m c w' v' :=
  ⟨⟨h.os, h.tape, h.output⟩, h.size, fun k hk _ _ h3 => h.block k hk h3, hp.imp id fun e k hk => by rw [e] at hk; injection hk with hk; omega⟩
theorem PGrew.set {w w' : World} {v v' : Value} {m c : Nat} (h : PGrew w v m c w' v') {a : Addr} (ha : a.block = c) (u : Value) : PGrew w v m c (w'.setCell a u) v' :=
  ⟨h.1, by simp [World.setCell]; exact h.2.1, fun k hk h1 h2 h3 => by rw [Below.heap_setCell _ _ _ _ (by omega)]; exact h.2.2.1 k hk h1 h2 h3, h.2.2.2⟩

/-- The variable of the names: one cell that may be written. -/
def VarIs (w : World) (c : Nat) (v : Value) : Prop := w.heap[c]? = some (.cells #[v] 33 (0, 0))
theorem VarIs.cell {w : World} {c : Nat} {v : Value} (h : VarIs w c v) : w.cell? ⟨c, 0, none⟩ = some v := by unfold VarIs at h; simp [World.cell?, h]
theorem VarIs.frozen {w : World} {c : Nat} {v : Value} (h : VarIs w c v) : w.frozen? ⟨c, 0, none⟩ = false := by unfold VarIs at h; simp [World.frozen?, h]
theorem VarIs.lt {w : World} {c : Nat} {v : Value} (h : VarIs w c v) : c < w.heap.size := (Array.getElem?_eq_some_iff.1 h).1
theorem VarIs.set {w : World} {c : Nat} {v : Value} (h : VarIs w c v) (u : Value) : VarIs (w.setCell ⟨c, 0, none⟩ u) c u := by
  unfold VarIs at *; simp [World.setCell, Array.getElem?_modify, h]
theorem VarIs.kept {w w' : World} {c : Nat} {v : Value} {row : Option Nat} (h : VarIs w c v) (hg : w.grownBy w' row) (hne : some c ≠ row) : VarIs w' c v := by
  have hlt := h.lt
  unfold VarIs at *
  rw [hg.block c hlt hne]; exact h
theorem VarIs.alloc {w : World} {c : Nat} {v : Value} (h : VarIs w c v) (o : Obj) : VarIs (w.alloc o) c v := h.kept (World.grownBy_alloc _ _ none) (by simp)

theorem shape_of_owns {w : World} {base : Nat} {v : Value} {n : Nat} {xs : List Value} (h : w.ownsRow base 9 1 v n xs) (hn : 0 < n) : ∃ g cap, v = .slice (some ⟨g, 0, none⟩) n cap := by
  rcases h.2 with ⟨_, h0⟩ | ⟨g, cap, _, e, _⟩
  · omega
  · exact ⟨g, cap, e⟩

theorem shape_of_owns' {w : World} {base : Nat} {v : Value} {n : Nat} {xs : List Value} (h : w.ownsRow base 9 1 v n xs) : ∃ A cap, v = .slice A n cap := by
  rcases h.2 with ⟨e, h0⟩ | ⟨g, cap, _, e, _⟩
  · exact ⟨none, 0, by rw [e, h0]⟩
  · exact ⟨_, cap, e⟩

set_option maxHeartbeats 1000000 in
theorem params_param (p : ByteArray) (ns : List ByteArray) (nv : Value) (f : ByteArray → Nat) (m cp cn ck n base : Nat) (w : World) (hp : p.size ≤ 1000) (hn : n ≤ 1000000) (hns : ns.length ≤ 1000000)
    (hcp : w.cell? ⟨cp, 0, none⟩ = some (.map (some m))) (hcn : VarIs w cn nv) (hown : w.ownsRow base 9 1 nv ns.length (ns.map .string)) (hm : MapIs w m n f (fun q => hasB q ns))
    (h1 : cp < base) (h2 : cn < base) (h3 : m < base) (hb : base ≤ w.heap.size) (e2 : cn ≠ m) :
    Calls Tryd.prog 50 #[.agg #[.int .i64 4, .string p, .slice none 0 0], .pointer (some ⟨cp, 0, none⟩), .pointer (some ⟨cn, 0, none⟩), .pointer (some ⟨ck, 0, none⟩)] w fun e w' => e = .returned (.tuple #[]) ∧ ∃ nv' f', VarIs w' cn nv' ∧
      w'.ownsRow base 9 1 nv' (Lv.addP (.param p) ns).length ((Lv.addP (.param p) ns).map .string) ∧ MapIs w' m (n + 1) f' (fun q => hasB q (Lv.addP (.param p) ns)) ∧ PGrew w nv m cn w' nv' := by
  have hpm : p.size ≤ maxLen := by unfold maxLen; omega
  have HM := hide (hm.alloc (.cells #[.int .i64 4, .string p, .slice none 0 0] 28))
  have HO := hide (hown.alloc (.cells #[.int .i64 4, .string p, .slice none 0 0] 28))
  have HV := hide (hcn.alloc (.cells #[.int .i64 4, .string p, .slice none 0 0] 28))
  have hcpb : cp < w.heap.size := by omega
  have hcnb : cn < w.heap.size := by omega
  have hcell := hcn.cell
  obtain ⟨A, cap, rfl⟩ := shape_of_owns' hown
  obtain ⟨i0, hi, hz0, hz1, hz2⟩ := info_parts Tryd.info9
  clear hm hown hcn
  by_cases hh : hasB p ns = true
  · have HE : Hid (Lv.addP (.param p) ns = ns) := by simp [Hid, Lv.addP, hh]
    go_enter Tryd.func50, Tryd.ntmps50
    go_wp2_with (at_lookup; refine wpList_lookOk rfl _ _ rfl rfl HM.out p rfl hpm ?_)
    refine bodyPost_ret (v := .tuple #[]) (by simp [results, Tryd.results50, go_sem]) rfl ?_
    exact ⟨rfl, _, f, HV.out, by rw [HE.out]; exact HO.out, by rw [HE.out]; exact HM.out.mono (by omega), PGrew.alloc _ _ _ _ _⟩
  · have hh' : hasB p ns = false := by simpa using hh
    have HE : Hid (Lv.addP (.param p) ns = ns ++ [p]) := by simp [Hid, Lv.addP, hh']
    clear hh
    go_enter Tryd.func50, Tryd.ntmps50
    go_wp2_with (first
      | (at_lookup; refine wpList_lookOk rfl _ _ rfl rfl HM.out p rfl hpm ?_)
      | (at_mapUpdate; refine wpList_put rfl _ _ _ rfl rfl HM.out (by unfold maxLen; omega) p ns.length rfl hpm ?_ (by omega) ?_))
    · rfl
    intro w' hm' hgr
    have hmw : m < w.heap.size := by omega
    have HM2 := hide hm'
    have HG := hide hgr
    have HV2 := hide (HV.out.kept hgr (by simpa using e2))
    have HO2 := hide (HO.out.kept hgr (by
      cases hA : (Value.slice A ns.length cap).ownBlock with
      | none => exact .inl rfl
      | some g => exact .inr (fun e => by injection e with e; have := (HO.out.lt g hA).1; omega)))
    have hc1 : w'.cell? ⟨w.heap.size, 1, none⟩ = some (.string p) := by
      rw [World.cell?_of_block (hgr.block w.heap.size (by simp) (fun e => by injection e with e; omega))]; simp
    have hcn2 := HV2.out.cell
    have hz := hgr.size
    simp at hz
    have hcnw : cn < w'.heap.size := by omega
    have hw0 : w.heap.size < w'.heap.size := by omega
    clear hm' hgr hcell
    go_wp2_with (at_builtin; refine wpList_append_placed _ rfl _ _ 33 rfl base 9 i0 (.string ⟨#[]⟩) 1 16 Tryd.underlying33 hi hz0 hz1 hz2 rfl (by decide) _ _ _ rfl (HO2.out.alloc _) ⟨w'.heap.size, 0, none⟩ 1 1 [.string p] rfl rfl ?c1 ?c2 (by decide) ?c3 ?c4 ?c5 ?_)
    case c1 => exact cell_one_new _ _ _
    case c2 => intro u hu; simp at hu; subst hu; rfl
    case c3 => unfold maxLen; omega
    case c4 => omega
    case c5 => simp; omega
    intro v' w2 hown' hgrow hpl
    obtain ⟨g, cap', rfl⟩ := shape_of_owns hown' (by omega)
    have hne : some cn ≠ (Value.slice A ns.length cap).ownBlock := fun e => by have := (HO.out.lt cn e.symm).1; omega
    have hnem : some m ≠ (Value.slice A ns.length cap).ownBlock := fun e => by have := (HO.out.lt m e.symm).1; omega
    have HV3 := hide ((HV2.out.alloc (.cells #[.string p] 9)).kept hgrow hne)
    have HM3 := hide ((HM2.out.alloc (.cells #[.string p] 9)).kept hgrow hnem)
    have hcn3 := HV3.out.cell
    have hfr3 := HV3.out.frozen
    have HO3 := hide hown'
    have HG2 := hide hgrow
    have HPL := hide hpl
    clear hown' hgrow hpl hcn2
    go_wp2_with fail
    refine bodyPost_ret (v := .tuple #[]) (by simp [results, Tryd.results50, go_sem]) rfl ?_
    refine ⟨rfl, _, fun q => if q = p then ns.length else f q, HV3.out.set _, ?_, ?_, ?_⟩
    · rw [HE.out]
      simpa using ownsRow_setCell_below HO3.out (a := ⟨cn, 0, none⟩) h2 _
    · refine (HM3.out.setCell (a := ⟨cn, 0, none⟩) (by show m ≠ cn; omega) _).congr (fun _ => rfl) (fun q => ?_)
      rw [HE.out]
      simp only [hasB, List.any_append, List.any_cons, List.any_nil, Bool.or_false]
      by_cases e : q = p
      · subst e; simp
      · have : ¬ p = q := fun e' => e e'.symm
        simp [e, this]
    · refine PGrew.set ?_ rfl _
      exact (PGrew.alloc _ _ _ _ _).trans ((PGrew.put HG.out).trans ((PGrew.alloc _ _ _ _ _).trans (PGrew.app HG2.out (by simpa using HPL.out))))

set_option maxHeartbeats 1000000 in
theorem params_walk (N : Nat) : ∀ (l : LvB) (v : Value) (ns : List ByteArray) (nv : Value) (f : ByteArray → Nat) (m cp cn ck n base B : Nat) (w : World), l.nodes ≤ N → (∀ p, Lv.has p l → p.size ≤ 1000) → n + l.nodes ≤ 1000000 → ns.length + l.nodes ≤ 1000000 →
    InLv w B l v → B ≤ m → B ≤ cn → w.cell? ⟨cp, 0, none⟩ = some (.map (some m)) → VarIs w cn nv → w.cell? ⟨ck, 0, none⟩ = some (.func (.func 50) #[] #[.pointer (some ⟨cp, 0, none⟩), .pointer (some ⟨cn, 0, none⟩), .pointer (some ⟨ck, 0, none⟩)]) →
    w.ownsRow base 9 1 nv ns.length (ns.map .string) → MapIs w m n f (fun q => hasB q ns) → cp < base → cn < base → m < base → ck < base → base ≤ w.heap.size → cp ≠ m → cn ≠ m → cp ≠ cn → ck ≠ m → ck ≠ cn →
    Calls Tryd.prog 50 #[v, .pointer (some ⟨cp, 0, none⟩), .pointer (some ⟨cn, 0, none⟩), .pointer (some ⟨ck, 0, none⟩)] w fun e w' => e = .returned (.tuple #[]) ∧ ∃ nv' f', VarIs w' cn nv' ∧
      w'.ownsRow base 9 1 nv' (l.addP ns).length ((l.addP ns).map .string) ∧ MapIs w' m (n + l.nodes) f' (fun q => hasB q (l.addP ns)) ∧ PGrew w nv m cn w' nv' := by
  induction N with
  | zero => intro l v ns nv f m cp cn ck n base B w h; cases l <;> simp [Lv.nodes] at h
  | succ N ih =>
    intro l v ns nv f m cp cn ck n base B w hN hnm hn hns hl hBm hBc hcp hcn hck hown hm q1 q2 q3 q4 hb e1 e2 e3 e4 e5
    by_cases hp : l.kind = 4
    · cases l <;> simp [Lv.kind] at hp
      rename_i p
      have e : v = _ := hl
      subst e
      simp only [Lv.nodes] at *
      exact params_param p ns nv f m cp cn ck n base w (hnm p rfl) (by omega) (by omega) hcp hcn hown hm q1 q2 q3 hb e2
    · obtain ⟨A, cap, rfl, hk⟩ := hl.shape
      have HK := hide hk
      have IH := hide ih
      have HNm := hide hnm
      have HE := hide (l.addKids_all ns hp)
      have hk2 := l.kids_le
      have hk4 := l.kind_le
      have hq : ((l.kind : Int) == 4) = false := by simp; omega
      have HM := hide (hm.alloc (.cells #[.int .i64 l.kind, .string l.nm, .slice A l.kids.length cap] 28))
      have HO := hide (hown.alloc (.cells #[.int .i64 l.kind, .string l.nm, .slice A l.kids.length cap] 28))
      have HV := hide (hcn.alloc (.cells #[.int .i64 l.kind, .string l.nm, .slice A l.kids.length cap] 28))
      have HBL := hide hown.lt
      have HCP := hide hcp
      have HCK := hide hck
      clear hk ih hl hp hm hnm hown hcn hcp hck
      go_enter Tryd.func50, Tryd.ntmps50
      go_wp2_with fail
      go_loopg [34] (l.kids.length) (fun g i wr => ∃ k : Nat, k + g = l.kids.length ∧ i = .int .i64 k ∧ ∃ nv' f', VarIs wr cn nv' ∧ wr.ownsRow base 9 1 nv' (l.addKids k ns).length ((l.addKids k ns).map .string) ∧ MapIs wr m (n + l.nkids k) f' (fun q => hasB q (l.addKids k ns)) ∧
        PGrew (w.alloc (.cells #[.int .i64 l.kind, .string l.nm, .slice A l.kids.length cap] 28)) nv m cn wr nv')
      case atStart => exact ⟨0, by omega, rfl, nv, f, HV.out, by simpa [Lv.addKids] using HO.out, by simpa [Lv.addKids, Lv.nkids] using HM.out, PGrew.refl _ _ _ _⟩
      case round =>
        obtain ⟨k, hkg, rfl, nv', f', hvar, hown', hmap, hgr⟩ := hrel
        have hz := hgr.2.1
        simp at hz
        have HMa := hide hmap
        have HVa := hide hvar
        have HOa := hide hown'
        have HG := hide hgr
        have hbw : Below B w wr := ((PGrew.alloc _ _ _ _ _).trans hgr).below (by omega) hBm hBc fun j hj => by have := (HBL.out j hj).1; omega
        have HBw := hide hbw
        have hold : ∀ j, j < base → j ≠ m → j ≠ cn → wr.heap[j]? = w.heap[j]? := fun j hj h1 h2 => ((PGrew.alloc _ _ _ _ _).trans hgr).2.2.1 j (by omega) h1 h2 (fun e => by have := (HBL.out j e.symm).1; omega)
        have HOld := hide hold
        clear hmap hvar hown' hgr hbw hold
        by_cases hlt : k < l.kids.length
        · obtain ⟨b, x, rfl, hbB, h3, hin⟩ := HK.out k hlt
          obtain ⟨k', nm', A', n', cap', rfl, c0, c1, c2⟩ := h3
          have d0 : wr.cell? ⟨b, k * 3, none⟩ = some (.int .i64 k') := by rw [HBw.out.cell hbB]; exact c0
          have d1 : wr.cell? ⟨b, k * 3 + 1, none⟩ = some (.string nm') := by rw [HBw.out.cell hbB]; exact c1
          have d2 : wr.cell? ⟨b, k * 3 + 2, none⟩ = some (.slice A' n' cap') := by rw [HBw.out.cell hbB]; exact c2
          have d3 : wr.cell? ⟨cp, 0, none⟩ = some (.map (some m)) := by rw [World.cell?_of_block (HOld.out cp q1 e1 e3)]; exact HCP.out
          have d4 : wr.cell? ⟨ck, 0, none⟩ = some (.func (.func 50) #[] #[.pointer (some ⟨cp, 0, none⟩), .pointer (some ⟨cn, 0, none⟩), .pointer (some ⟨ck, 0, none⟩)]) := by rw [World.cell?_of_block (HOld.out ck q4 e4 e5)]; exact HCK.out
          have hnk := Lv.kid_nodes hlt
          have HSn := hide (l.addKids_snoc k ns hlt)
          have HSm := hide (l.nkids_snoc k hlt)
          have hsk := l.addKids_len k ns hlt
          have hlt3 := l.nkids_lt (k + 1)
          rw [HSm.out] at hlt3
          have hckw : ck < wr.heap.size := by omega
          have HI : Hid (∀ W, Below wr.heap.size wr W → Calls Tryd.prog 50 #[.agg #[.int .i64 k', .string nm', .slice A' n' cap'], .pointer (some ⟨cp, 0, none⟩), .pointer (some ⟨cn, 0, none⟩), .pointer (some ⟨ck, 0, none⟩)] W fun e w' => e = .returned (.tuple #[]) ∧ ∃ nv2 f2, VarIs w' cn nv2 ∧
              w'.ownsRow base 9 1 nv2 (Lv.addP l.kids[k] (l.addKids k ns)).length ((Lv.addP l.kids[k] (l.addKids k ns)).map .string) ∧ MapIs w' m (n + l.nkids k + (l.kids[k]).nodes) f2 (fun q => hasB q (Lv.addP l.kids[k] (l.addKids k ns))) ∧ PGrew W nv' m cn w' nv2) := fun W hW => by
            have hgW : wr.grownBy W none := ⟨hW.os, hW.tape, hW.output, hW.size, fun k hk _ => hW.block k hk⟩
            refine IH.out _ _ _ nv' f' m cp cn ck _ base B W (by omega) (fun p hp => HNm.out p (Lv.kid_has hlt hp)) (by omega) (by omega) ((hin.below HBw.out).below (hW.mono (by omega))) hBm hBc (cell_later hW d3) (HVa.out.kept hgW (by simp)) (cell_later hW d4) (HOa.out.kept hgW (by cases nv'.ownBlock <;> simp)) (HMa.out.kept hgW (by simp)) q1 q2 q3 q4 (by have := hW.size; omega) e1 e2 e3 e4 e5
          clear c0 c1 c2 hin d3
          go_wp2_with (go_at_call 50; refine (HI.out _ ?_).mono ?_)
          · exact (Below.refl _ _).alloc (Nat.le_refl _) _
          rintro e w' ⟨rfl, nv2, f2, hv2, ho2, hm2, hg2⟩
          have HM2 := hide hm2
          have HV2 := hide hv2
          have HO2 := hide ho2
          have HG2 := hide hg2
          clear hm2 hv2 ho2 hg2
          go_wp2_with fail
          go_roundg (l.kids.length - (k + 1))
          case measure => omega
          case rel => exact ⟨k + 1, by omega, by go_num, nv2, f2, HV2.out, by rw [HSn.out]; exact HO2.out, by rw [HSn.out, HSm.out, ← Nat.add_assoc]; exact HM2.out, HG.out.trans ((PGrew.alloc _ _ _ _ _).trans HG2.out)⟩
        · have hke : k = l.kids.length := by omega
          subst hke
          go_wp2_with fail
          go_end0
          have := l.nkids_lt l.kids.length
          exact ⟨rfl, nv', f', HVa.out, by rw [← HE.out]; exact HOa.out, by rw [← HE.out]; exact HMa.out.mono (by omega), (PGrew.alloc _ _ _ _ _).trans HG.out⟩

set_option maxHeartbeats 1000000 in
theorem params_calls (l : LvB) (v : Value) (B : Nat) (w : World) (hBw : B ≤ w.heap.size) (hl : InLv w B l v) (hnm : ∀ p, Lv.has p l → p.size ≤ 1000) (hn : l.nodes ≤ 900000) :
    Calls Tryd.prog 37 #[v] w fun e w' => ∃ nv, e = .returned nv ∧ w'.ownsRow (w.heap.size + 5) 9 1 nv (l.addP []).length ((l.addP []).map .string) ∧ Below w.heap.size w w' := by
  obtain ⟨A, cap, e⟩ := hl.form
  have HL := hide hl
  subst e
  have HI : Hid (∀ W m cp cn ck base, Below w.heap.size w W → w.heap.size ≤ m → w.heap.size ≤ cn → W.cell? ⟨cp, 0, none⟩ = some (.map (some m)) → VarIs W cn (.slice none 0 0) → W.cell? ⟨ck, 0, none⟩ = some (.func (.func 50) #[] #[.pointer (some ⟨cp, 0, none⟩), .pointer (some ⟨cn, 0, none⟩), .pointer (some ⟨ck, 0, none⟩)]) → MapIs W m 0 (fun _ => 0) (fun _ => false) → cp < base → cn < base → m < base → ck < base → base ≤ W.heap.size → cp ≠ m → cn ≠ m → cp ≠ cn → ck ≠ m → ck ≠ cn → _) :=
    fun W m cp cn ck base (hW : Below w.heap.size w W) (hm : w.heap.size ≤ m) (hcn : w.heap.size ≤ cn) h1 h2 h3 h4 h5 h6 h7 h8 h9 g1 g2 g3 g4 g5 => params_walk l.nodes l _ [] (.slice none 0 0) _ m cp cn ck 0 base B W (Nat.le_refl _) hnm (by omega) (by simp; omega) (hl.below (hW.mono hBw)) (by omega) (by omega) h1 h2 h3 (World.ownsRow_nil _ _ _ _) (MapIs.congr h4 (fun _ => rfl) (fun _ => rfl)) h5 h6 h7 h8 h9 g1 g2 g3 g4 g5
  clear hl hnm
  have hmm := @run_makeMap Tryd.prog
  go_enter Tryd.func37, Tryd.ntmps37
  go_wp2_with (go_at_call 50; refine (HI.out _ (w.heap.size + 1 + 1) (w.heap.size + 1 + 1 + 1) (w.heap.size + 1) (w.heap.size + 1 + 1 + 1 + 1) (w.heap.size + 5) ?_ ?_ ?_ ?_ ?_ ?_ ?_ ?_ ?_ ?_ ?_ ?_ ?_ ?_ ?_ ?_ ?_).mono ?_)
  · repeat' (first | exact Below.refl _ _ | refine Below.setCell ?_ ?_ _ | refine Below.alloc ?_ ?_ _)
    all_goals (simp; try omega)
  · omega
  · omega
  · simp [World.cell?_alloc_at, World.cell?_alloc_past]
  · have h0 : VarIs ((w.alloc (.cells #[.int .i64 l.kind, .string l.nm, .slice A l.kids.length cap] 28)).alloc (.cells #[.slice none 0 0] 33)) (w.heap.size + 1) (.slice none 0 0) := by
      have := heap_alloc_new (w.alloc (.cells #[.int .i64 l.kind, .string l.nm, .slice A l.kids.length cap] 28)) (.cells #[.slice none 0 0] 33)
      simpa [VarIs] using this
    exact ((h0.alloc _).alloc _).alloc _
  · simp [World.cell?_alloc_at]
  · have := ((MapIs.made ((w.alloc (.cells #[.int .i64 l.kind, .string l.nm, .slice A l.kids.length cap] 28)).alloc (.cells #[.slice none 0 0] 33))).alloc (.cells #[Value.map (some (w.heap.size + 1 + 1))] 71))
    simp at this
    exact this.alloc _
  · omega
  · omega
  · omega
  · omega
  · simp
  · omega
  · omega
  · omega
  · omega
  · omega
  rintro e w' ⟨rfl, nv', f', hv, ho, hm, hg⟩
  have hc := hv.cell
  have HO := hide ho
  have HB : Hid (Below w.heap.size w w') := by
    refine Below.trans (b := _) ?_ (hg.below (B := w.heap.size) (by simp; omega) (by omega) (by omega) (fun k hk => by simp [Value.ownBlock] at hk))
    repeat' (first | exact Below.refl _ _ | refine Below.setCell ?_ ?_ _ | refine Below.alloc ?_ ?_ _)
    all_goals (simp; try omega)
  clear hv ho hm hg
  go_wp2_with fail
  go_ret
  exact ⟨nv', rfl, HO.out, HB.out⟩

end Go.Proofs.YtpdoegjddiaaoaaDoor
