/- The contracts of levelParts, Parts, uses, Much of the document: they come to an end, and what they count is small. -/
import Derived.Test.YtafdlaaohglfdaaGreatDoorKin

namespace Go.Proofs.YtafdlaaohglfdaaGreatDoor
open Go.RowKit

theorem nat_sub_cast {a b : Nat} (h : b ≤ a) : ((a - b : Nat) : Int) = (a : Int) - (b : Int) := by omega

set_option maxRecDepth 100000 in
set_option maxHeartbeats 2000000 in
theorem rlevelParts_calls (N : Nat) : ∀ (l : LvB) (v : Value) (B most : Nat) (w : World), l.nodes ≤ N → B ≤ w.heap.size → InLv w B l v → most ≤ 20000 →
    Calls Tryz.prog 40 #[v, .int .i64 (most : Nat)] w fun e w' => ∃ r : Nat, e = .returned (.int .i64 (r : Nat)) ∧ 1 ≤ r ∧ r ≤ most + 1 ∧ Below w.heap.size w w' := by
  induction N with
  | zero => intro l v B most w h; cases l <;> simp [Lv.nodes] at h
  | succ N ih =>
    intro l v B most w hN hBw hl hm
    obtain ⟨A, cap, rfl, hk⟩ := hl.shape
    have HK := hide hk
    have IH := hide ih
    have hk2 := l.kids_le
    have hk4 := l.kind_le
    clear hk ih hl
    go_enter Tryz.func40, Tryz.ntmps40
    go_wp2_with fail
    go_loopg [5, 6] (l.kids.length) (fun g n i wr => ∃ k r : Nat, k + g = l.kids.length ∧ i = .int .i64 k ∧ n = .int .i64 r ∧ 1 ≤ r ∧ r ≤ most + 1 ∧ Below (w.heap.size + 1) (w.alloc (.cells #[.int .i64 l.kind, .string l.nm, .slice A l.kids.length cap] 79)) wr)
    case atStart => exact ⟨0, 1, by omega, rfl, rfl, by omega, by omega, Below.refl _ _⟩
    case round =>
      obtain ⟨k, r, hkg, rfl, rfl, hr1, hr2, hwr⟩ := hrel
      have hz := hwr.size
      simp at hz
      have hb2 : wr.cell? ⟨w.heap.size, 2, none⟩ = some (.slice A l.kids.length cap) := by rw [hwr.cell (by simp)]; simp
      have hold : Below w.heap.size w wr := ((Below.refl _ _).alloc (Nat.le_refl _) _).trans (hwr.mono (by omega))
      have HW := hide hwr
      have HO := hide hold
      clear hwr
      by_cases hlt : k < l.kids.length
      · by_cases hle : r ≤ most
        · obtain ⟨b, x, rfl, hbB, h3, hin⟩ := HK.out k hlt
          obtain ⟨k', nm', A', n', cap', rfl, c0, c1, c2⟩ := h3
          have d0 := cell_later hold c0
          have d1 := cell_later hold c1
          have d2 := cell_later hold c2
          have hnk := Lv.kid_nodes hlt
          have HI := hide (IH.out _ _ B (most - r) wr (by omega) (by omega) (hin.below (hold.mono hBw)) (by omega))
          rw [nat_sub_cast hle] at HI
          clear c0 c1 c2 hin hold
          go_wp2_with (go_at_call 40; refine HI.out.mono ?_)
          intro e w' h
          obtain ⟨q, rfl, hq1, hq2, hb⟩ := h
          have HB := hide (HW.out.trans (hb.mono (by omega)))
          clear hb HI
          go_wp2_with fail
          go_roundg (l.kids.length - (k + 1))
          case measure => omega
          case rel => exact ⟨k + 1, r + q, by omega, by go_num, by go_num, by omega, by omega, HB.out⟩
        · clear hold
          go_wp2_with fail
          go_ret
          exact ⟨r, rfl, hr1, hr2, HO.out⟩
      · clear hold
        go_wp2_with fail
        go_ret
        exact ⟨r, rfl, hr1, hr2, HO.out⟩
set_option maxRecDepth 100000 in
set_option maxHeartbeats 4000000 in
theorem rparts_calls : ∀ (d : Nat) (t : Tm) (v : Value) (most : Nat) (w : World), WfT d t → InTm w (fun _ => True) d t v → most ≤ 20000 →
    Calls Tryz.prog 17 #[v, .int .i64 (most : Nat)] w fun e w' => ∃ r : Nat, e = .returned (.int .i64 (r : Nat)) ∧ 1 ≤ r ∧ r ≤ most + 1 ∧ Below w.heap.size w w'
  | 0, _, _, _, _, h, _, _ => absurd h (by simp [WfT])
  | d + 1, t, v, most, w, hwf, hin, hm => by
    have ih := rparts_calls d
    obtain ⟨A, c, A', c', rfl, hl, ht⟩ := hin
    obtain ⟨a1, a2, a3, a4, a5, a6, a7, a8, a9, a10⟩ := hwf
    have h3 : t.ts.length ≤ 3 := by rw [a8]; exact tparts_le _
    have IH := hide ih
    have HL := hide hl
    have HT := hide ht
    have HW := hide a10
    clear ih hl ht a10 a3 a4 a5 a8 a9
    go_enter Tryz.func17, Tryz.ntmps17
    go_wp2_with fail
    go_loopg [5, 6] (t.ls.length) (fun g n i wr => ∃ k r : Nat, k + g = t.ls.length ∧ i = .int .i64 k ∧ n = .int .i64 r ∧ 1 ≤ r ∧ r ≤ most + 1 ∧ Box5 w (.int .i64 (t.kd : Nat)) (.int .i64 (t.n : Nat)) (.string t.nm) (.slice A t.ls.length c) (.slice A' t.ts.length c') wr)
    case atStart => exact ⟨0, 1, by omega, rfl, rfl, by omega, by omega, Below.refl _ _⟩
    case round =>
      obtain ⟨k, r, hkg, rfl, rfl, hr1, hr2, hwr⟩ := hrel
      obtain ⟨g0, g1, g2, g3, g4⟩ := Box5.cells hwr
      have hz := Box5.size hwr
      have hold := Box5.old hwr
      have HWr := hide hwr
      clear hwr
      by_cases hgo : k < t.ls.length ∧ r ≤ most
      · obtain ⟨hlt, hle⟩ := hgo
        obtain ⟨b, x, rfl, _, h5, hinx⟩ := HL.out k hlt
        obtain ⟨k', nm', A3, n', cap', rfl, c0, c1, c2⟩ := h5
        have d0 := cell_later hold c0
        have d1 := cell_later hold c1
        have d2 := cell_later hold c2
        have HI := hide (rlevelParts_calls (t.ls[k]).nodes t.ls[k] _ wr.heap.size (most - r) wr (Nat.le_refl _) (Nat.le_refl _) ((hinx.inLv.below hold).mono hold.size) (by omega))
        rw [nat_sub_cast hle] at HI
        clear c0 c1 c2 hinx hold
        go_wp2_with (go_at_call 40; refine HI.out.mono ?_)
        intro e w' h
        obtain ⟨q, rfl, hq1, hq2, hb⟩ := h
        have HB := hide (Box5.then HWr.out hb)
        clear hb HI g0 g1 g2 g3 g4
        go_wp2_with fail
        go_roundg (t.ls.length - (k + 1))
        case measure => omega
        case rel => exact ⟨k + 1, r + q, by omega, by go_num, by go_num, by omega, by omega, HB.out⟩
      · have hcase : ¬ k < t.ls.length ∨ (k < t.ls.length ∧ ¬ r ≤ most) := by omega
        clear hgo hold
        rcases hcase with hno | ⟨hlt, hno⟩
        all_goals
          go_wp2_with fail
          go_loopg [5, 8] (t.ts.length) (fun g n i wr => ∃ k r : Nat, k + g = t.ts.length ∧ i = .int .i64 k ∧ n = .int .i64 r ∧ 1 ≤ r ∧ r ≤ most + 1 ∧ Box5 w (.int .i64 (t.kd : Nat)) (.int .i64 (t.n : Nat)) (.string t.nm) (.slice A t.ls.length c) (.slice A' t.ts.length c') wr)
          case atStart => exact ⟨0, r, by omega, rfl, rfl, hr1, hr2, HWr.out⟩
          case round =>
            clear g0 g1 g2 g3 g4 hr1 hr2 hkg HWr hz hno
            obtain ⟨k, r, hkg, rfl, rfl, hr1, hr2, hwr⟩ := hrel
            obtain ⟨g0, g1, g2, g3, g4⟩ := Box5.cells hwr
            have hz := Box5.size hwr
            have hold := Box5.old hwr
            have HWr := hide hwr
            have HOld := hide hold
            clear hwr
            by_cases hgo : k < t.ts.length ∧ r ≤ most
            · obtain ⟨hlt2, hle⟩ := hgo
              obtain ⟨b, x, rfl, _, h5, hinx⟩ := HT.out k hlt2
              obtain ⟨kk, nn, nm', A3, n', cap', A5, n5, cap5, rfl, c0, c1, c2, c3, c4⟩ := h5
              have d0 := cell_later hold c0
              have d1 := cell_later hold c1
              have d2 := cell_later hold c2
              have d3 := cell_later hold c3
              have d4 := cell_later hold c4
              have HI := hide (IH.out t.ts[k] _ (most - r) wr (HW.out k hlt2) (hinx.keep fun b hb _ => ⟨trivial, hold.block b hb⟩) (by omega))
              rw [nat_sub_cast hle] at HI
              clear c0 c1 c2 c3 c4 hinx hold
              go_wp2_with (go_at_call 17; refine HI.out.mono ?_)
              intro e w' h
              obtain ⟨q, rfl, hq1, hq2, hb⟩ := h
              have HB := hide (Box5.then HWr.out hb)
              clear hb HI g0 g1 g2 g3 g4 d0 d1 d2 d3 d4
              go_wp2_with fail
              go_roundg (t.ts.length - (k + 1))
              case measure => omega
              case rel => exact ⟨k + 1, r + q, by omega, by go_num, by go_num, by omega, by omega, HB.out⟩
            · have hcase : ¬ k < t.ts.length ∨ (k < t.ts.length ∧ ¬ r ≤ most) := by omega
              clear hgo hold
              rcases hcase with hno | ⟨hlt, hno⟩
              all_goals
                go_wp2_with fail
                go_ret
                exact ⟨r, rfl, hr1, hr2, HOld.out⟩

/-- A bound on how often a variable stands in a term. -/
def nodesT : Nat → Tm → Nat
  | 0, _ => 0
  | d + 1, t => 1 + (t.ts.map (nodesT d)).sum
theorem nodesT_le : ∀ (d : Nat) (t : Tm), nodesT d t ≤ partsT d t
  | 0, _ => Nat.le_refl _
  | d + 1, t => by
    have h : (t.ts.map (nodesT d)).sum ≤ (t.ts.map (partsT d)).sum := by
      generalize t.ts = ts
      induction ts with
      | nil => simp
      | cons a ts ih => have := nodesT_le d a; simp only [List.map_cons, List.sum_cons]; omega
    simp only [nodesT, partsT]
    omega
theorem sum_take {f : Tm → Nat} (ts : List Tm) (k : Nat) (h : k < ts.length) : ((ts.take (k + 1)).map f).sum = ((ts.take k).map f).sum + f ts[k] := by
  rw [List.take_succ_eq_append_getElem h, List.map_append, List.sum_append]
  simp
theorem sum_take_le {f : Tm → Nat} (ts : List Tm) (k : Nat) : ((ts.take k).map f).sum ≤ (ts.map f).sum := by
  have h : (ts.map f).sum = ((ts.take k).map f).sum + ((ts.drop k).map f).sum := by
    rw [← List.sum_append, ← List.map_append, List.take_append_drop]
  omega

set_option maxRecDepth 100000 in
set_option maxHeartbeats 4000000 in
theorem ruses_calls : ∀ (d : Nat) (t : Tm) (v : Value) (n : Nat) (w : World), WfT d t → n + d ≤ 2000000 → nodesT d t ≤ 1000000 → InTm w (fun _ => True) d t v →
    Calls Tryz.prog 18 #[v, .int .i64 (n : Nat)] w fun e w' => ∃ r : Nat, e = .returned (.int .i64 (r : Nat)) ∧ r ≤ nodesT d t ∧ Below w.heap.size w w'
  | 0, _, _, _, _, h, _, _, _ => absurd h (by simp [WfT])
  | d + 1, t, v, n, w, hwf, hn, hno, hin => by
    have ih := ruses_calls d
    obtain ⟨A, c, A', c', rfl, -, ht⟩ := hin
    obtain ⟨a1, a2, a3, a4, a5, a6, a7, a8, a9, a10⟩ := hwf
    have h3 : t.ts.length ≤ 3 := by rw [a8]; exact tparts_le _
    have hN : nodesT (d + 1) t = 1 + (t.ts.map (nodesT d)).sum := rfl
    rw [hN] at hno ⊢
    have IH := hide ih
    have HT := hide ht
    have HW := hide a10
    clear ih ht a10 a3 a4 a5 a8 a9 hN
    by_cases hself : t.kd = 0 ∧ t.n = n
    · have q0 : ((t.kd : Int) == 0) = true := by simp [hself.1]
      have q1 : ((t.n : Int) == (n : Int)) = true := by simp [hself.2]
      clear hself
      go_enter Tryz.func18, Tryz.ntmps18
      go_wp2_with fail
      go_ret
      exact ⟨1, rfl, by omega, (Below.refl _ _).alloc (Nat.le_refl _) _⟩
    · have hcase : (((t.kd : Int) == 0) = true ∧ ((t.n : Int) == (n : Int)) = false) ∨ ((t.kd : Int) == 0) = false := by
        by_cases h : t.kd = 0
        · exact .inl ⟨by simp [h], by rw [beq_eq_false_iff_ne]; intro e; exact hself ⟨h, by omega⟩⟩
        · exact .inr (by simp; omega)
      clear hself
      rcases hcase with ⟨q0, q1⟩ | q0
      all_goals
        go_enter Tryz.func18, Tryz.ntmps18
        go_wp2_with fail
        go_loopg [5, 6] (t.ts.length) (fun gg s i wr => ∃ (k r : Nat), k + gg = t.ts.length ∧ i = .int .i64 k ∧ s = .int .i64 r ∧ r ≤ ((t.ts.take k).map (nodesT d)).sum ∧ Box5 w (.int .i64 (t.kd : Nat)) (.int .i64 (t.n : Nat)) (.string t.nm) (.slice A t.ls.length c) (.slice A' t.ts.length c') wr)
        case atStart => exact ⟨0, 0, by omega, rfl, rfl, by simp, Below.refl _ _⟩
        case round =>
          obtain ⟨k, r, hkg, rfl, rfl, hr, hbel⟩ := hrel
          obtain ⟨g0, g1, g2, g3, g4⟩ := Box5.cells hbel
          have hz := Box5.size hbel
          have hsl := sum_take_le (f := nodesT d) t.ts k
          by_cases hlt : k < t.ts.length
          · obtain ⟨b1, x, rfl, hb1, h5, hinx⟩ := HT.out k hlt
            obtain ⟨kk, nn, nm', A3, n', cap', A5, n5, cap5, rfl, c0, c1, c2, c3, c4⟩ := h5
            have KB := hide (rbinds_calls t k t.n t.nm (.slice A t.ls.length c) (some ⟨b1, 0, none⟩) c' wr h3 a1 A t.ls.length c rfl)
            have hbk := t.bnd_le k
            have hsum := sum_take (f := nodesT d) t.ts k hlt
            have hsl2 := sum_take_le (f := nodesT d) t.ts (k + 1)
            have IHk : Hid (∀ W, Below w.heap.size w W → Calls Tryz.prog 18 #[.agg #[.int .i64 kk, .int .i64 nn, .string nm', .slice A3 n' cap', .slice A5 n5 cap5], .int .i64 ((n : Int) + ((t.bnd k : Nat) : Int))] W fun e w' => ∃ r : Nat, e = .returned (.int .i64 (r : Nat)) ∧ r ≤ nodesT d t.ts[k] ∧ Below W.heap.size W w') := fun W hW => by
              have := IH.out t.ts[k] _ (n + t.bnd k) W (HW.out k hlt) (by omega) (by omega) (hinx.keep fun b hb _ => ⟨trivial, hW.block b hb⟩)
              rw [Int.natCast_add] at this
              exact this
            have HBel := hide hbel
            have HC : Hid (w.cell? ⟨b1, k * 5, none⟩ = some (.int .i64 kk) ∧ w.cell? ⟨b1, k * 5 + 1, none⟩ = some (.int .i64 nn) ∧ w.cell? ⟨b1, k * 5 + 2, none⟩ = some (.string nm') ∧ w.cell? ⟨b1, k * 5 + 3, none⟩ = some (.slice A3 n' cap') ∧ w.cell? ⟨b1, k * 5 + 4, none⟩ = some (.slice A5 n5 cap5)) := ⟨c0, c1, c2, c3, c4⟩
            clear hbel hinx c0 c1 c2 c3 c4
            go_wp2_with (go_at_call 41; refine KB.out.mono ?_)
            rintro e w1 ⟨rfl, hw1⟩
            clear KB g0 g1 g2 g3 g4
            have hbel1 := Box5.then HBel.out hw1
            have hz1' := Box5.size hbel1
            obtain ⟨g0, g1, g2, g3, g4⟩ := Box5.cells hbel1
            obtain ⟨c0, c1, c2, c3, c4⟩ := HC.out
            have hold1 := Box5.old hbel1
            have d0 := cell_later hold1 c0
            have d1 := cell_later hold1 c1
            have d2 := cell_later hold1 c2
            have d3 := cell_later hold1 c3
            have d4 := cell_later hold1 c4
            have HB1 := hide hbel1
            have IH1 := hide (IHk.out w1 hold1)
            clear c0 c1 c2 c3 c4 hold1 hbel1 hw1 IHk
            have hcase : (bndB t k = true ∧ ((n : Int) + ((t.bnd k : Nat) : Int)) = n + 1) ∨ (bndB t k = false ∧ ((n : Int) + ((t.bnd k : Nat) : Int)) = n) := by
              cases hbb : bndB t k with
              | true => exact .inl ⟨rfl, by rw [bndB_true hbb]; rfl⟩
              | false => exact .inr ⟨rfl, by rw [bndB_false hbb]; simp⟩
            rcases hcase with ⟨hq, hq1⟩ | ⟨hq, hq1⟩
            all_goals
              rw [hq]
              rw [hq1] at IH1
              clear hq1 hq
              go_wp2_with (go_at_call 18; refine IH1.out.mono ?_)
              intro e w5 h
              obtain ⟨q, rfl, hq9, hb5⟩ := h
              have HB5 := hide (Box5.then HB1.out hb5)
              clear hb5 IH1 d0 d1 d2 d3 d4 g0 g1 g2 g3 g4
              go_wp2_with fail
              go_roundg (t.ts.length - (k + 1))
              case measure => omega
              case rel => exact ⟨k + 1, r + q, by omega, by go_num, by go_num, by omega, HB5.out⟩
          · have HB5 := hide hbel
            clear hbel
            go_wp2_with fail
            go_ret
            exact ⟨r, rfl, by omega, Box5.old HB5.out⟩

theorem Boxes5.all {w W : World} {a0 a1 a2 a3 a4 b0 b1 b2 b3 b4 : Value} (h : Boxes5 w (.cells #[a0, a1, a2, a3, a4] 29) (.cells #[b0, b1, b2, b3, b4] 29) W) :
    (W.cell? ⟨w.heap.size, 0, none⟩ = some a0 ∧ W.cell? ⟨w.heap.size, 1, none⟩ = some a1 ∧ W.cell? ⟨w.heap.size, 2, none⟩ = some a2 ∧ W.cell? ⟨w.heap.size, 3, none⟩ = some a3 ∧ W.cell? ⟨w.heap.size, 4, none⟩ = some a4) ∧
    W.cell? ⟨w.heap.size + 1, 0, none⟩ = some b0 ∧ W.cell? ⟨w.heap.size + 1, 1, none⟩ = some b1 ∧ W.cell? ⟨w.heap.size + 1, 2, none⟩ = some b2 ∧ W.cell? ⟨w.heap.size + 1, 3, none⟩ = some b3 ∧ W.cell? ⟨w.heap.size + 1, 4, none⟩ = some b4 := by
  constructor
  · refine cells5 (by rw [Below.block h _ (by omega), Below.heap_alloc _ _ _ (by simp)]; exact heap_alloc_new _ _)
  · refine cells5 ?_
    rw [Below.block h _ (by omega)]
    have := heap_alloc_new (w.alloc (.cells #[a0, a1, a2, a3, a4] 29)) (.cells #[b0, b1, b2, b3, b4] 29)
    simpa using this

set_option maxRecDepth 100000 in
set_option maxHeartbeats 4000000 in
theorem much_calls (d e : Nat) (a b : Tm) (va vb : Value) (w : World) (hd : d ≤ 1000000) (ha : WfT d a) (hb : WfT e b) (hno : nodesT d a ≤ 1000000) (ia : InTm w (fun _ => True) d a va) (ib : InTm w (fun _ => True) e b vb) :
    Calls Tryz.prog 6 #[va, vb] w fun en w' => ∃ r : Bool, en = .returned (.bool r) ∧ Below w.heap.size w w' := by
  obtain ⟨k, n, nm, A, la, lc, A', ta, tc, rfl⟩ := ia.form
  obtain ⟨ku, nu, nmu, Au, mu, cu, Au', mu', cu', rfl⟩ := ib.form
  have K1 := hide (fun W (hW : Below w.heap.size w W) => rparts_calls d a _ 20000 W ha (ia.keep fun b hb _ => ⟨trivial, hW.block b hb⟩) (Nat.le_refl _))
  have K2 := hide (fun W (hW : Below w.heap.size w W) => ruses_calls d a _ 0 W ha (by omega) hno (ia.keep fun b hb _ => ⟨trivial, hW.block b hb⟩))
  have K3 := hide (fun W (hW : Below w.heap.size w W) => rparts_calls e b _ 20000 W hb (ib.keep fun b hb _ => ⟨trivial, hW.block b hb⟩) (Nat.le_refl _))
  have hold : Below w.heap.size w ((w.alloc (five k n nm (.slice A la lc) (.slice A' ta tc))).alloc (five ku nu nmu (.slice Au mu cu) (.slice Au' mu' cu'))) := ((Below.refl _ _).alloc (Nat.le_refl _) _).alloc (by simp) _
  have hbox : Boxes5 w (five k n nm (.slice A la lc) (.slice A' ta tc)) (five ku nu nmu (.slice Au mu cu) (.slice Au' mu' cu')) ((w.alloc (five k n nm (.slice A la lc) (.slice A' ta tc))).alloc (five ku nu nmu (.slice Au mu cu) (.slice Au' mu' cu'))) := Below.refl _ _
  have HO := hide hold
  have HBx := hide hbox
  clear ia ib ha hb hold hbox
  go_enter Tryz.func6, Tryz.ntmps6
  go_wp2_with (go_at_call 17; refine (K1.out _ ?_).mono ?_)
  · exact HO.out
  intro en w1 h
  obtain ⟨r, rfl, h1, h2, hb1⟩ := h
  have hB1 := HBx.out.then hb1
  obtain ⟨⟨g0, g1, g2, g3, g4⟩, g5, g6, g7, g8, g9⟩ := Boxes5.all hB1
  have ho1 := hB1.old
  have HB1 := hide hB1
  have HO1 := hide ho1
  clear hb1 hB1
  by_cases hr : r ≤ 20000
  · go_wp2_with (go_at_call 18; refine (K2.out _ ?_).mono ?_)
    · exact HO1.out
    intro en w2 h
    obtain ⟨u, rfl, hu, hb2⟩ := h
    clear g0 g1 g2 g3 g4 g5 g6 g7 g8 g9
    have hB2 := HB1.out.then hb2
    obtain ⟨⟨g0, g1, g2, g3, g4⟩, g5, g6, g7, g8, g9⟩ := Boxes5.all hB2
    have ho2 := hB2.old
    have HB2 := hide hB2
    have HO2 := hide ho2
    clear hb2 hB2
    go_wp2_with (go_at_call 17; refine (K3.out _ ?_).mono ?_)
    · exact HO2.out
    intro en w3 h
    obtain ⟨q, rfl, hq1, hq2, hb3⟩ := h
    have HO3 := hide (HB2.out.then hb3).old
    have hmul : u * q ≤ 1000000 * 20001 := Nat.mul_le_mul (by omega) hq2
    have hpos : (0 : Int) ≤ (u : Int) * (q : Int) := Int.mul_nonneg (by omega) (by omega)
    have hle : (u : Int) * (q : Int) ≤ 20001000000 := by
      rw [← Int.natCast_mul]
      omega
    clear hb3 g0 g1 g2 g3 g4 g5 g6 g7 g8 g9
    go_wp2_with fail
    go_ret
    exact ⟨_, rfl, HO3.out⟩
  · go_wp2_with fail
    go_ret
    exact ⟨_, rfl, HO1.out⟩

end Go.Proofs.YtafdlaaohglfdaaGreatDoor
