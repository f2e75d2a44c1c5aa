/- The contract of the document's Lift. -/
import Derived.Test.YteepmfhpjanbhaaGreatDoorGRow
import Derived.Test.YteepmfhpjanbhaaGreatDoorDTermB

namespace Go.Proofs.YteepmfhpjanbhaaGreatDoor
open Go.RowKit

/-- A box of a term's five cells and the result's block lie there, and nothing older has turned. -/
abbrev TB (w : World) (c0 c1 c2 c3 c4 : Value) (W : World) : Prop := Below (w.heap.size + 2) ((w.alloc (.cells #[c0, c1, c2, c3, c4] 30)).alloc ztm) W
section
variable {w W W' : World} {c0 c1 c2 c3 c4 : Value}
theorem TB.old (h : TB w c0 c1 c2 c3 c4 W) : Below w.heap.size w W := (((Below.refl _ _).alloc (Nat.le_refl _) _).alloc (by simp) _).trans (Below.mono h (by omega))
theorem TB.size (h : TB w c0 c1 c2 c3 c4 W) : w.heap.size + 2 ≤ W.heap.size := by have := Below.size h; simpa using this
theorem TB.cells (h : TB w c0 c1 c2 c3 c4 W) : W.cell? ⟨w.heap.size, 0, none⟩ = some c0 ∧ W.cell? ⟨w.heap.size, 1, none⟩ = some c1 ∧ W.cell? ⟨w.heap.size, 2, none⟩ = some c2 ∧ W.cell? ⟨w.heap.size, 3, none⟩ = some c3 ∧ W.cell? ⟨w.heap.size, 4, none⟩ = some c4 := by
  refine ⟨?_, ?_, ?_, ?_, ?_⟩ <;> (rw [Below.cell h (by simp)]; simp)
theorem TB.zero (h : TB w c0 c1 c2 c3 c4 W) : W.cell? ⟨w.heap.size + 1, 0, none⟩ = some (.int .i64 0) ∧ W.cell? ⟨w.heap.size + 1, 1, none⟩ = some (.int .i64 0) ∧ W.cell? ⟨w.heap.size + 1, 2, none⟩ = some (.string ⟨#[]⟩) ∧ W.cell? ⟨w.heap.size + 1, 3, none⟩ = some (.slice none 0 0) ∧ W.cell? ⟨w.heap.size + 1, 4, none⟩ = some (.slice none 0 0) ∧ (∀ i, W.frozen? ⟨w.heap.size + 1, i, none⟩ = false) ∧ w.heap.size + 1 < W.heap.size := by
  have hz := TB.size h
  refine ⟨?_, ?_, ?_, ?_, ?_, fun i => ?_, by omega⟩
  · rw [Below.cell h (by simp)]; simp [World.cell?_alloc_at]
  · rw [Below.cell h (by simp)]; simp [World.cell?_alloc_at]
  · rw [Below.cell h (by simp)]; simp [World.cell?_alloc_at]
  · rw [Below.cell h (by simp)]; simp [World.cell?_alloc_at]
  · rw [Below.cell h (by simp)]; simp [World.cell?_alloc_at]
  · rw [Below.frozen h (by simp)]
    have := heap_alloc_new (w.alloc (.cells #[c0, c1, c2, c3, c4] 30)) ztm
    simp at this
    simp [World.frozen?, this]
theorem TB.then (h : TB w c0 c1 c2 c3 c4 W) (hb : Below W.heap.size W W') : TB w c0 c1 c2 c3 c4 W' := Below.trans h (hb.mono (TB.size h))
end

def bndB (t : Tm) (i : Nat) : Bool := decide (4 ≤ t.kd) && decide (i + 1 = t.ts.length)
theorem bndB_true {t : Tm} {i : Nat} (h : bndB t i = true) : t.bnd i = 1 := by unfold bndB at h; simp at h; unfold Tm.bnd; rw [if_pos h]
theorem bndB_false {t : Tm} {i : Nat} (h : bndB t i = false) : t.bnd i = 0 := by unfold bndB at h; unfold Tm.bnd; rw [if_neg]; rintro ⟨h1, h2⟩; simp [h1, h2] at h

set_option maxRecDepth 100000 in
set_option maxHeartbeats 2000000 in
theorem rbinds_calls (t : Tm) (i : Nat) (n : Int) (nm : ByteArray) (l : Value) (A' : Option Addr) (c' : Nat) (w : World) (h3 : t.ts.length ≤ 3) (h6 : t.kd ≤ 6) (A : Option Addr) (m c : Nat) (hl : l = .slice A m c) :
    Calls Tryz.prog 45 #[.agg #[.int .i64 (t.kd : Nat), .int .i64 n, .string nm, l, .slice A' t.ts.length c'], .int .i64 (i : Nat)] w fun e w' => e = .returned (.bool (bndB t i)) ∧ Below w.heap.size w w' := by
  subst hl
  unfold bndB
  generalize t.kd = kd at *
  generalize t.ts.length = m' at *
  by_cases h4 : 4 ≤ kd
  · have q : decide ((kd : Int) ≥ 4) = true := by simp; omega
    go_enter Tryz.func45, Tryz.ntmps45
    go_wp2_with fail
    go_ret
    refine ⟨ret_bool ?_, (Below.refl _ _).alloc (Nat.le_refl _) _⟩
    rw [Bool.eq_iff_iff]
    simp [h4]
    omega
  · have q : decide ((kd : Int) ≥ 4) = false := by simp; omega
    go_enter Tryz.func45, Tryz.ntmps45
    go_wp2_with fail
    go_ret
    exact ⟨ret_bool (by simp [h4]), (Below.refl _ _).alloc (Nat.le_refl _) _⟩

set_option maxRecDepth 100000 in
set_option maxHeartbeats 2000000 in
theorem rwith_calls (k n : Int) (nm : ByteArray) (A : Option Addr) (m c : Nat) (A' : Option Addr) (m' c' : Nat) (A2 : Option Addr) (m2 c2 : Nat) (w : World) :
    Calls Tryz.prog 46 #[.agg #[.int .i64 k, .int .i64 n, .string nm, .slice A m c, .slice A' m' c'], .slice A2 m2 c2] w fun e w' => e = .returned (.agg #[.int .i64 k, .int .i64 n, .string nm, .slice A m c, .slice A2 m2 c2]) ∧ Below w.heap.size w w' := by
  go_enter Tryz.func46, Tryz.ntmps46
  go_wp2_with fail
  refine bodyPost_ret (v := .agg #[.int .i64 k, .int .i64 n, .string nm, .slice A m c, .slice A2 m2 c2]) (by simp [results, Tryz.results46, go_sem]) rfl ?_
  exact ⟨rfl, ((Below.refl _ _).alloc (Nat.le_refl _) _).alloc (by simp) _⟩

def liftF (n f0 : Nat) : Nat → Nat → Tm := fun free b => tvar ((if f0 ≤ free then free + n else free) + b)

theorem tvar_of {d : Nat} {t : Tm} (h : WfT (d + 1) t) (hk : t.kd = 0) : tvar t.n = t := by
  obtain ⟨h1, h2, h3⟩ := h.2.2.1 hk
  exact Tm.ext hk.symm rfl h1.symm h2.symm h3.symm

theorem InTm.tvar (w : World) (S : Nat → Prop) (d n : Nat) (A : Option Addr) (c : Nat) (A' : Option Addr) (c' : Nat) : InTm w S (d + 1) (tvar n) (.agg #[.int .i64 0, .int .i64 (n : Nat), .string ⟨#[]⟩, .slice A 0 c, .slice A' 0 c']) :=
  ⟨A, c, A', c', rfl, fun i hi => absurd hi (by show ¬ i < 0; omega), fun i hi => absurd hi (by show ¬ i < 0; omega)⟩

theorem TK.map {W : World} {S : Nat → Prop} {d k : Nat} {ts : List Tm} {F : Nat → Tm → Tm} {v : Value} (h : k < ts.length) (hin : InTm W S d (F k ts[k]) v) : TK d (ts.mapIdx F) W S k v :=
  ⟨by simpa using h, by rw [List.getElem_mapIdx]; exact hin⟩

theorem Tryz.info30 : (Tryz.prog.info? 30).map (fun i => (i.zero, i.size, i.bytes)) = some (some (.agg #[.int .i64 0, .int .i64 0, .string ⟨#[]⟩, .slice none 0 0, .slice none 0 0]), 5, 80) := by kernel_rfl

set_option maxRecDepth 100000 in
set_option maxHeartbeats 2000000 in
theorem rlift_var (n f0 B d b : Nat) (t : Tm) (v : Value) (w : World) (hn : n ≤ 1000000) (hf0 : f0 ≤ 1000000) (hwf : WfT (d + 1) t) (hin : InTm w (fun b => b < B) (d + 1) t v) (hk : t.kd = 0) :
    Calls Tryz.prog 14 #[v, .int .i64 (n : Nat), .int .i64 ((f0 + b : Nat))] w fun e w' => MadeT B w (d + 1) (chT (liftF n f0) id (d + 1) b t) e w' := by
  have hT : tvar t.n = t := tvar_of hwf hk
  have hn9 : t.n ≤ 99999 := hwf.2.1
  have HC : Hid (chT (liftF n f0) id (d + 1) b t = tvar (if f0 + b ≤ t.n then t.n + n else t.n)) := by
    by_cases h1 : t.n < b
    · show chT _ _ _ _ _ = _; rw [chT_low hk h1, if_neg (by omega)]
    · show chT _ _ _ _ _ = _; rw [chT_free hk h1]
      unfold liftF
      by_cases h2 : f0 + b ≤ t.n
      · rw [if_pos h2, if_pos (by omega)]; congr 1; omega
      · rw [if_neg h2, if_neg (by omega)]; congr 1; omega
  obtain ⟨A, c, A', c', rfl, -, -⟩ := hin
  obtain ⟨z1, z2, z3⟩ := hwf.2.2.1 hk
  rw [hk, z1, z2, z3, HC.out]
  simp only [List.length_nil]
  clear z1 z2 z3 hwf HC
  show Calls Tryz.prog 14 #[.agg #[.int .i64 0, .int .i64 (t.n : Nat), .string ⟨#[]⟩, .slice A 0 c, .slice A' 0 c'], .int .i64 (n : Nat), .int .i64 ((f0 + b : Nat))] w _
  generalize t.n = N at *
  generalize f0 + b = F at *
  by_cases h2 : F ≤ N
  · have q : decide ((N : Int) ≥ (F : Int)) = true := by simp; omega
    rw [if_pos h2]
    go_enter Tryz.func14, Tryz.ntmps14
    go_wp2_with fail
    refine bodyPost_ret (v := .agg #[.int .i64 0, .int .i64 ((N : Int) + (n : Int)), .string ⟨#[]⟩, .slice none 0 0, .slice none 0 0]) (by simp [results, Tryz.results14, go_sem]) rfl ?_
    exact ⟨_, _, _, _, _, _, _, _, _, rfl, InTm.tvar _ _ _ _ _ _ _ _, ((Below.refl _ _).alloc (Nat.le_refl _) _).alloc (by simp) _⟩
  · have q : decide ((N : Int) ≥ (F : Int)) = false := by simp; omega
    rw [if_neg h2]
    go_enter Tryz.func14, Tryz.ntmps14
    go_wp2_with fail
    refine bodyPost_ret (v := .agg #[.int .i64 0, .int .i64 (N : Nat), .string ⟨#[]⟩, .slice A 0 c, .slice A' 0 c']) (by simp [results, Tryz.results14, go_sem]) rfl ?_
    exact ⟨_, _, _, _, _, _, _, _, _, rfl, InTm.tvar _ _ _ _ _ _ _ _, ((Below.refl _ _).alloc (Nat.le_refl _) _).alloc (by simp) _⟩

theorem InTm.mk {W : World} {S : Nat → Prop} {d kd n lk lt c c' : Nat} {nm : ByteArray} {ls : List LvB} {ts : List Tm} {A A' : Option Addr} (e1 : lk = ls.length) (e2 : lt = ts.length) (hl : LvsIn W S A ls)
    (ht : ∀ i (hi : i < ts.length), ∃ b x, A' = some ⟨b, 0, none⟩ ∧ S b ∧ Five W b (i * 5) x ∧ InTm W S d ts[i] x) : InTm W S (d + 1) (.node kd n nm ls ts) (.agg #[.int .i64 (kd : Nat), .int .i64 (n : Nat), .string nm, .slice A lk c, .slice A' lt c']) := by
  subst e1; subst e2
  exact ⟨A, c, A', c', rfl, hl, ht⟩

/-- Parts stand as long as their blocks do. -/
theorem parts_keep {W W' : World} {S S' : Nat → Prop} {d : Nat} {ts : List Tm} {A' : Option Addr} (h : ∀ b, b < W.heap.size → S b → S' b ∧ W'.heap[b]? = W.heap[b]?) (ht : ∀ i (hi : i < ts.length), ∃ b x, A' = some ⟨b, 0, none⟩ ∧ S b ∧ Five W b (i * 5) x ∧ InTm W S d ts[i] x) :
    ∀ i (hi : i < ts.length), ∃ b x, A' = some ⟨b, 0, none⟩ ∧ S' b ∧ Five W' b (i * 5) x ∧ InTm W' S' d ts[i] x := fun i hi => by
  obtain ⟨b, x, e, hb, h5, hp⟩ := ht i hi
  exact ⟨b, x, e, (h b h5.lt hb).1, h5.of_block (h b h5.lt hb).2, hp.keep h⟩

set_option maxRecDepth 100000 in
set_option maxHeartbeats 4000000 in
theorem rlift_node (n f0 B d b F : Nat) (hF : F = f0 + b) (t : Tm) (v : Value) (w : World) (hf0 : f0 ≤ 1000000) (hwf : WfT (d + 1) t) (hb : b + d ≤ 1000000) (hB : B ≤ w.heap.size) (hin : InTm w (fun b => b < B) (d + 1) t v) (hk : t.kd ≠ 0)
    (ih : ∀ (x : Tm) (v : Value) (b' F' : Nat) (w : World), F' = f0 + b' → WfT d x → b' + d ≤ 1000001 → B ≤ w.heap.size → InTm w (fun b => b < B) d x v → Calls Tryz.prog 14 #[v, .int .i64 (n : Nat), .int .i64 (F' : Nat)] w fun e w' => MadeT B w d (chT (liftF n f0) id d b' x) e w') :
    Calls Tryz.prog 14 #[v, .int .i64 (n : Nat), .int .i64 (F : Nat)] w fun e w' => MadeT B w (d + 1) (chT (liftF n f0) id (d + 1) b t) e w' := by
  have hFb : F ≤ 2000000 := by omega
  have HF := hide hF
  clear hF
  obtain ⟨A, c, A', c', rfl, hl, ht⟩ := hin
  obtain ⟨a1, a2, a3, a4, a5, a6, a7, a8, a9, a10⟩ := hwf
  have h3 : t.ts.length ≤ 3 := by rw [a8]; exact tparts_le _
  have q0 : ((t.kd : Int) == 0) = false := by simp; omega
  rw [chT_node hk]
  have HL := hide hl
  have HT := hide ht
  have HW := hide a10
  have IH := hide ih
  obtain ⟨i0, hi, hz0, hz1, hz2⟩ := info_parts Tryz.info30
  clear hl ht a10 ih a3 a4 a5 a8 a9
  go_enter Tryz.func14, Tryz.ntmps14
  go_wp2_with fail
  go_loopg [7, 8] (t.ts.length) (fun g rv i wr => ∃ (k : Nat) (xs : List Value), k + g = t.ts.length ∧ i = .int .i64 k ∧ GRow (TK d (t.ts.mapIdx fun i x => chT (liftF n f0) id d (b + t.bnd i) x)) wr 30 5 B (w.heap.size + 2) k rv xs ∧ TB w (.int .i64 (t.kd : Nat)) (.int .i64 (t.n : Nat)) (.string t.nm) (.slice A t.ls.length c) (.slice A' t.ts.length c') wr)
  case atStart => exact ⟨0, [], by omega, rfl, GRow.start _ _ _ _ _ _, Below.refl _ _⟩
  case round =>
    obtain ⟨k, xs, hkg, rfl, hrow, hbel⟩ := hrel
    obtain ⟨g0, g1, g2, g3, g4⟩ := TB.cells hbel
    have hz := TB.size hbel
    have hold := TB.old hbel
    by_cases hlt : k < t.ts.length
    · obtain ⟨b1, x, rfl, hb1, h5, hinx⟩ := HT.out k hlt
      obtain ⟨kk, nn, nm', A3, n', cap', A5, n5, cap5, rfl, c0, c1, c2, c3, c4⟩ := h5
      have d0 := cell_later hold c0
      have d1 := cell_later hold c1
      have d2 := cell_later hold c2
      have d3 := cell_later hold c3
      have d4 := cell_later hold c4
      obtain ⟨ao, cc, rfl, hao⟩ := hrow.shape
      have KB := hide (rbinds_calls t k t.n t.nm (.slice A t.ls.length c) (some ⟨b1, 0, none⟩) c' wr h3 a1 A t.ls.length c rfl)
      have hbk := t.bnd_le k
      have IHk : Hid (∀ W, Below w.heap.size w W → Calls Tryz.prog 14 #[.agg #[.int .i64 kk, .int .i64 nn, .string nm', .slice A3 n' cap', .slice A5 n5 cap5], .int .i64 (n : Nat), .int .i64 ((F : Int) + ((t.bnd k : Nat) : Int))] W fun e w' => MadeT B W d (chT (liftF n f0) id d (b + t.bnd k) t.ts[k]) e w') :=
        fun W hW => by
          have := IH.out _ _ (b + t.bnd k) (F + t.bnd k) W (by have := HF.out; omega) (HW.out k hlt) (by omega) (Nat.le_trans hB hW.size) (hinx.below (hW.mono hB))
          rw [Int.natCast_add] at this
          exact this
      have HRow := hide hrow
      have HBel := hide hbel
      have HO := hide hold
      have HC : Hid (w.cell? ⟨b1, k * 5, none⟩ = some (.int .i64 kk) ∧ w.cell? ⟨b1, k * 5 + 1, none⟩ = some (.int .i64 nn) ∧ w.cell? ⟨b1, k * 5 + 2, none⟩ = some (.string nm') ∧ w.cell? ⟨b1, k * 5 + 3, none⟩ = some (.slice A3 n' cap') ∧ w.cell? ⟨b1, k * 5 + 4, none⟩ = some (.slice A5 n5 cap5)) := ⟨c0, c1, c2, c3, c4⟩
      have HX := hide hao
      clear hrow hbel hold hinx c0 c1 c2 c3 c4 d0 d1 d2 d3 d4 hao
      go_wp2_with (go_at_call 45; refine KB.out.mono ?_)
      rintro e w1 ⟨rfl, hw1⟩
      clear KB g0 g1 g2 g3 g4
      have hbel1 := TB.then HBel.out hw1
      have hz1' := TB.size hbel1
      obtain ⟨g0, g1, g2, g3, g4⟩ := TB.cells hbel1
      obtain ⟨c0, c1, c2, c3, c4⟩ := HC.out
      have hold1 := TB.old hbel1
      have d0 := cell_later hold1 c0
      have d1 := cell_later hold1 c1
      have d2 := cell_later hold1 c2
      have d3 := cell_later hold1 c3
      have d4 := cell_later hold1 c4
      have HR1 := hide (GRow.later (TK.keeps _ _) HRow.out hw1)
      have HB1 := hide hbel1
      have IH1 := hide (IHk.out w1 hold1)
      clear c0 c1 c2 c3 c4 hold1 hbel1 hw1 IHk
      have hcase : (bndB t k = true ∧ ((F : Int) + ((t.bnd k : Nat) : Int)) = F + 1) ∨ (bndB t k = false ∧ ((F : Int) + ((t.bnd k : Nat) : Int)) = F) := by
        cases hbb : bndB t k with
        | true => exact .inl ⟨rfl, by rw [bndB_true hbb]; rfl⟩
        | false => exact .inr ⟨rfl, by rw [bndB_false hbb]; simp⟩
      rcases hcase with ⟨hq, hq1⟩ | ⟨hq, hq1⟩
      all_goals
        rw [hq]
        rw [hq1] at IH1
        clear hq1 hq
        go_wp2_with (go_at_call 14; refine IH1.out.mono ?_)
        rintro e w5 ⟨k1, n1, nm1, A1, l1, cc1, A2, l2, cc2, rfl, hin5, hb5⟩
        have hz5 := hb5.size
        have HR5 := hide (GRow.later (TK.keeps _ _) HR1.out hb5)
        have HB5 := hide (TB.then HB1.out hb5)
        have HI5 := hide hin5
        have HB5' := hide hb5
        clear hin5 hb5 IH1 d0 d1 d2 d3 d4 g0 g1 g2 g3 g4
        go_wp2_with (at_builtin; refine wpList_append_placed _ rfl _ _ 28 rfl (w.heap.size + 2) 30 i0 _ 5 80 Tryz.underlying28 hi hz0 hz1 hz2 rfl (by decide) (.slice ao k cc) k (flat xs) ?e1 (HR5.out.own.alloc _) ⟨w5.heap.size, 0, none⟩ 1 1 [.int .i64 k1, .int .i64 n1, .string nm1, .slice A1 l1 cc1, .slice A2 l2 cc2] ?e2 rfl ?e3 ?e4 (by decide) ?e5 ?e6 ?e7 ?_)
        case e1 => rfl
        case e2 => rfl
        case e3 => exact five_new _ _ _ _ _ _ _
        case e4 => intro u hu; simp at hu; rcases hu with rfl | rfl | rfl | rfl | rfl <;> rfl
        case e5 => unfold maxLen; omega
        case e6 => omega
        case e7 => simp; omega
        intro v' w6 hown6 hgr6 hpl6
        have HRow6 := hide (GRow.push (TK.keeps _ _) HR1.out (m := w1.heap.size) (by omega) (by omega) (fun g e => (HR1.out.own.lt g e).2) HB5'.out (TK.map hlt HI5.out) rfl hown6 hgr6 (by simpa using hpl6))
        have HB6 := hide (Below.grown (Below.alloc HB5.out (by omega) (.cells #[.int .i64 k1, .int .i64 n1, .string nm1, .slice A1 l1 cc1, .slice A2 l2 cc2] 30)) hgr6 (by simp; omega) (fun j hj => (HR1.out.own.lt j hj).1))
        clear hown6 hgr6 hpl6
        go_wp2_with fail
        go_roundg (t.ts.length - (k + 1))
        case measure => omega
        case rel => exact ⟨k + 1, _, by omega, by go_num, HRow6.out, HB6.out⟩
    · have hke : k = t.ts.length := by omega
      subst hke
      have hlen : (t.ts.mapIdx fun i x => chT (liftF n f0) id d (b + t.bnd i) x).length = t.ts.length := by simp
      obtain ⟨ao, cc, rfl, hts⟩ := GRow.terms (by rw [hlen]; exact hrow)
      obtain ⟨x0, x1, x2, x3, x4, xf, xl⟩ := TB.zero hbel
      have KW := hide (fun W => rwith_calls (t.kd : Nat) (t.n : Nat) t.nm A t.ls.length c A' t.ts.length c' ao (t.ts.mapIdx fun i x => chT (liftF n f0) id d (b + t.bnd i) x).length cc W)
      have HT2 := hide hts
      have HB2 := hide hbel
      clear hts hbel hold hrow x0 x1 x2 x3 x4 xf xl
      rw [hlen] at KW
      rw [hlen]
      go_wp2_with (go_at_call 46; refine (KW.out _).mono ?_)
      rintro e w1 ⟨rfl, hw1⟩
      have hbel1 := TB.then HB2.out hw1
      obtain ⟨x0, x1, x2, x3, x4, xf, xl⟩ := TB.zero hbel1
      have hold1 := TB.old hbel1
      have HF := hide (fill5 (r := w.heap.size + 1) (u0 := .int .i64 (t.kd : Nat)) (u1 := .int .i64 (t.n : Nat)) (u2 := .string t.nm) (u3 := .slice A t.ls.length c) (u4 := .slice ao t.ts.length cc) (S := fun b => b < B ∨ w.heap.size + 2 ≤ b) (by omega) hB hold1 (fun b _ h => h.imp id fun h => by omega)
        (InTm.mk (lk := t.ls.length) (kd := t.kd) (n := t.n) (nm := t.nm) (ls := t.ls.map id) (c := c) (c' := cc) (by simp) hlen.symm (by rw [List.map_id]; exact HL.out.keep fun b _ hb => ⟨.inl hb, hold1.block b (by omega)⟩) (parts_keep (fun b hb hS => ⟨hS, hw1.block b hb⟩) HT2.out)))
      clear hw1 hbel1 hold1
      go_wp2_with fail
      refine bodyPost_ret (v := .agg #[.int .i64 (t.kd : Nat), .int .i64 (t.n : Nat), .string t.nm, .slice A t.ls.length c, .slice ao t.ts.length cc]) (by simp [results, Tryz.results14, go_sem, x0, x1, x2, x3, x4]) rfl ?_
      exact ⟨_, _, _, _, _, _, _, _, _, rfl, HF.out.1, HF.out.2⟩

theorem rlift_calls (n f0 B : Nat) (hn : n ≤ 1000000) (hf0 : f0 ≤ 1000000) : ∀ (d : Nat) (t : Tm) (v : Value) (b F : Nat) (w : World), F = f0 + b → WfT d t → b + d ≤ 1000001 → B ≤ w.heap.size → InTm w (fun b => b < B) d t v →
    Calls Tryz.prog 14 #[v, .int .i64 (n : Nat), .int .i64 (F : Nat)] w fun e w' => MadeT B w d (chT (liftF n f0) id d b t) e w'
  | 0, _, _, _, _, _, _, h, _, _, _ => absurd h (by simp [WfT])
  | d + 1, t, v, b, F, w, hF, hwf, hb, hB, hin => by
    by_cases hk : t.kd = 0
    · subst hF
      exact rlift_var n f0 B d b t v w hn hf0 hwf hin hk
    · exact rlift_node n f0 B d b F hF t v w hf0 hwf (by omega) hB hin hk fun x v b' F' w hF' hx hb' hB' hin' => rlift_calls n f0 B hn hf0 d x v b' F' w hF' hx hb' hB' hin'
end Go.Proofs.YteepmfhpjanbhaaGreatDoor
