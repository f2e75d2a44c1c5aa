/- The contract of the document's Leq: it tells whether a level is worth at most what another is, under all numbers. -/
import Derived.Test.YtdmlflgeihgfcaaOrder
import Derived.Test.YtdmlflgeihgfcaaSuccs
import Derived.Test.YtdmlflgeihgfcaaRefWorth
import Derived.Deep.DeepCutAuto
namespace Go.Proofs.Ytdmlflgeihgfcaa
open Go.RowKit

/-- Behind two boxes of three cells nothing old has turned. -/
def Box2 (w : World) (a0 a1 a2 b0 b1 b2 : Value) (W : World) : Prop := Below (w.heap.size + 2) ((w.alloc (.cells #[a0, a1, a2] 29)).alloc (.cells #[b0, b1, b2] 29)) W
section
variable {w W : World} {a0 a1 a2 b0 b1 b2 : Value}
theorem Box2.start (w : World) (a0 a1 a2 b0 b1 b2 : Value) : Box2 w a0 a1 a2 b0 b1 b2 ((w.alloc (.cells #[a0, a1, a2] 29)).alloc (.cells #[b0, b1, b2] 29)) := Below.refl _ _
theorem Box2.old (h : Box2 w a0 a1 a2 b0 b1 b2 W) : Below w.heap.size w W := (((Below.refl _ _).alloc (Nat.le_refl _) _).alloc (by simp) _).trans (h.mono (by omega))
theorem Box2.size (h : Box2 w a0 a1 a2 b0 b1 b2 W) : w.heap.size + 2 ≤ W.heap.size := by have := Below.size h; simpa using this
theorem Box2.then {W' : World} (h : Box2 w a0 a1 a2 b0 b1 b2 W) {B : Nat} (hB : w.heap.size + 2 ≤ B) (h' : Below B W W') : Box2 w a0 a1 a2 b0 b1 b2 W' := Below.trans h (h'.mono hB)
theorem Box2.drew (h : Box2 w a0 a1 a2 b0 b1 b2 W) : Box2 w a0 a1 a2 b0 b1 b2 W.drew := Below.drew h
theorem Box2.cellsA (h : Box2 w a0 a1 a2 b0 b1 b2 W) : W.cell? ⟨w.heap.size, 0, none⟩ = some a0 ∧ W.cell? ⟨w.heap.size, 1, none⟩ = some a1 ∧ W.cell? ⟨w.heap.size, 2, none⟩ = some a2 := by
  refine ⟨?_, ?_, ?_⟩ <;> (rw [Below.cell h (by simp)]; simp)
theorem Box2.cellsB (h : Box2 w a0 a1 a2 b0 b1 b2 W) : W.cell? ⟨w.heap.size + 1, 0, none⟩ = some b0 ∧ W.cell? ⟨w.heap.size + 1, 1, none⟩ = some b1 ∧ W.cell? ⟨w.heap.size + 1, 2, none⟩ = some b2 := by
  refine ⟨?_, ?_, ?_⟩ <;> (rw [Below.cell h (by simp)]; simp [World.cell?_alloc_at])
end

def pw (k : Nat) : Nat := 3 ^ k
theorem pw_succ (k : Nat) : pw (k + 1) = pw k * 3 := Nat.pow_succ ..
theorem pw_le {k : Nat} (h : k ≤ 20) : pw k ≤ 3486784401 := Nat.le_trans (Nat.pow_le_pow_right (by omega) h) (by decide)

theorem Try.info3 : (Try.prog.info? 3).map (fun i => (i.zero, i.size, i.bytes)) = some (some (.int .i64 0), 1, 8) := by kernel_rfl

theorem vals_cell (w : World) (G r : Nat) (h : r < 3) : (w.alloc (.cells #[.int .i64 0, .int .i64 1, .int .i64 (G : Nat)] 3)).cell? ⟨w.heap.size, r, none⟩ = some (.int .i64 (vals G r : Nat)) := by
  match r, h with
  | 0, _ => simp [vals]
  | 1, _ => simp [vals]
  | 2, _ => simp [vals]

/-- A contract that tells 'Below', from a world on. -/
theorem Calls.since {f : FuncId} {args : Array Value} {r : Value} {W0 : World} (h : ∀ W, Below W0.heap.size W0 W → Calls Try.prog f args W fun e w' => e = .returned r ∧ Below W.heap.size W w')
    (W : World) (hW : Below W0.heap.size W0 W) : Calls Try.prog f args W fun e w' => e = .returned r ∧ Hid (Below W0.heap.size W0 w') :=
  (h W hW).mono fun _ _ ⟨he, hb⟩ => ⟨he, hW.trans (hb.mono hW.size)⟩

set_option maxHeartbeats 4000000 in
theorem rleq_calls (a b : LvB) (va vb : Value) (B : Nat) (w : World) (hBw : B ≤ w.heap.size) (ha : InLv w B a va) (hb : InLv w B b vb) (na : a.nodes ≤ 1000) (nb : b.nodes ≤ 1000) (hlen : (b.addP (a.addP [])).length ≤ 20) :
    Calls Try.prog 9 #[va, vb] w fun e w' => e = .returned (.bool (leB a b)) ∧ Below w.heap.size w w' := by
  obtain ⟨A1, cap1, e1⟩ := ha.form
  obtain ⟨A2, cap2, e2⟩ := hb.form
  have HPa : Hid (∀ W, Box2 w (.int .i64 a.kind) (.string a.nm) (.slice A1 a.kids.length cap1) (.int .i64 b.kind) (.string b.nm) (.slice A2 b.kids.length cap2) W →
      Calls Try.prog 6 #[va, .slice none 0 0] W fun e w' => ∃ v', e = .returned v' ∧ Hid (w'.ownsRow (w.heap.size + 2) 9 1 v' (a.addP []).length ((a.addP []).map .string)) ∧ Hid (Box2 w (.int .i64 a.kind) (.string a.nm) (.slice A1 a.kids.length cap1) (.int .i64 b.kind) (.string b.nm) (.slice A2 b.kids.length cap2) w')) := fun W hW => by
    refine (rparams_calls a.nodes a va (.slice none 0 0) [] B (w.heap.size + 2) W (Nat.le_refl _) (by omega) hW.size (ha.below (hW.old.mono hBw)) (World.ownsRow_nil _ _ _ _) (by simp; omega)).mono ?_
    rintro e w' ⟨v', rfl, ho, hg⟩
    exact ⟨v', rfl, ho, hW.then (Nat.le_refl _) (hg.below hW.size (fun k hk => by simp [Value.ownBlock] at hk))⟩
  have HPb : Hid (∀ W v1, Hid (W.ownsRow (w.heap.size + 2) 9 1 v1 (a.addP []).length ((a.addP []).map .string)) → Box2 w (.int .i64 a.kind) (.string a.nm) (.slice A1 a.kids.length cap1) (.int .i64 b.kind) (.string b.nm) (.slice A2 b.kids.length cap2) W →
      Calls Try.prog 6 #[vb, v1] W fun e w' => ∃ v', e = .returned v' ∧ Hid (w'.ownsRow (w.heap.size + 2) 9 1 v' (b.addP (a.addP [])).length ((b.addP (a.addP [])).map .string)) ∧ Hid (Box2 w (.int .i64 a.kind) (.string a.nm) (.slice A1 a.kids.length cap1) (.int .i64 b.kind) (.string b.nm) (.slice A2 b.kids.length cap2) w')) := fun W v1 hO hW => by
    have hl := Lv.addP_len a []
    simp at hl
    refine (rparams_calls b.nodes b vb v1 _ B (w.heap.size + 2) W (Nat.le_refl _) (by omega) hW.size (hb.below (hW.old.mono hBw)) hO.out (by omega)).mono ?_
    rintro e w' ⟨v', rfl, ho, hg⟩
    exact ⟨v', rfl, ho, hW.then (Nat.le_refl _) (hg.below hW.size (fun k hk => (hO.out.lt k hk).1))⟩
  have HSa : Hid (∀ W, Box2 w (.int .i64 a.kind) (.string a.nm) (.slice A1 a.kids.length cap1) (.int .i64 b.kind) (.string b.nm) (.slice A2 b.kids.length cap2) W →
      Calls Try.prog 17 #[va] W fun e w' => e = .returned (.int .i64 (a.succs : Nat)) ∧ Hid (Below W.heap.size W w') ∧ Hid (Box2 w (.int .i64 a.kind) (.string a.nm) (.slice A1 a.kids.length cap1) (.int .i64 b.kind) (.string b.nm) (.slice A2 b.kids.length cap2) w')) := fun W hW => by
    refine (succs_calls a.nodes a va B W (Nat.le_refl _) (by omega) (Nat.le_trans hBw hW.old.size) (ha.below (hW.old.mono hBw))).mono ?_
    rintro e w' ⟨rfl, hb⟩
    exact ⟨rfl, hb, hW.then hW.size hb⟩
  have HSb : Hid (∀ W, Box2 w (.int .i64 a.kind) (.string a.nm) (.slice A1 a.kids.length cap1) (.int .i64 b.kind) (.string b.nm) (.slice A2 b.kids.length cap2) W →
      Calls Try.prog 17 #[vb] W fun e w' => e = .returned (.int .i64 (b.succs : Nat)) ∧ Hid (Below W.heap.size W w') ∧ Hid (Box2 w (.int .i64 a.kind) (.string a.nm) (.slice A1 a.kids.length cap1) (.int .i64 b.kind) (.string b.nm) (.slice A2 b.kids.length cap2) w')) := fun W hW => by
    refine (succs_calls b.nodes b vb B W (Nat.le_refl _) (by omega) (Nat.le_trans hBw hW.old.size) (hb.below (hW.old.mono hBw))).mono ?_
    rintro e w' ⟨rfl, hb⟩
    exact ⟨rfl, hb, hW.then hW.size hb⟩
  have HA := hide ha
  have HBb := hide hb
  have sa := a.succs_le
  have sb := b.succs_le
  subst e1
  subst e2
  clear ha hb
  go_enter Try.func9, Try.ntmps9
  go_upto_region 1 with fail
  go_cut [5] (fun ps wx => wx.ownsRow (w.heap.size + 2) 9 1 ps (b.addP (a.addP [])).length ((b.addP (a.addP [])).map .string) ∧ Box2 w (.int .i64 a.kind) (.string a.nm) (.slice A1 a.kids.length cap1) (.int .i64 b.kind) (.string b.nm) (.slice A2 b.kids.length cap2) wx)
  case first =>
    have HB := hide (Box2.start w (.int .i64 a.kind) (.string a.nm) (.slice A1 a.kids.length cap1) (.int .i64 b.kind) (.string b.nm) (.slice A2 b.kids.length cap2)).drew
    go_region_with (first
      | (go_at_call_of 6 (Value.slice none 0 0); refine (HPa.out _ ?_).mono ?_; exact HB.out; rintro e w' ⟨v1, rfl, HO, HB⟩; obtain ⟨g0, g1, g2⟩ := HB.out.cellsB)
      | (go_at_call 6; refine (HPb.out _ _ HO ?_).mono ?_; exact HB.out; rintro e w' ⟨v2, rfl, HO2, HB⟩))
    all_goals
      go_wp2_with fail
      go_meet
      case rel => exact ⟨HO2.out, HB.out⟩
  case rest =>
    obtain ⟨hown, hbox⟩ := hcut
    have HS := hide (InStrs.of_owns hown (by unfold maxLen; omega))
    have HX := hide hbox
    obtain ⟨g0, g1, g2⟩ := hbox.cellsA
    obtain ⟨g3, g4, g5⟩ := hbox.cellsB
    have hsz := hbox.size
    clear hown hbox
    go_upto_region 2 with fail
    go_cut [6] (fun G wx => G = .int .i64 (2 + a.succs + b.succs : Nat) ∧ Below wc.heap.size wc wx)
    case first =>
      have HB := hide HX.out.drew
      have HL := hide (Below.refl wc.heap.size wc).drew
      go_region_with (first
        | (go_at_call_of 17 (Lv.nm a); refine (HSa.out _ ?_).mono ?_; exact HB.out; rintro e w' ⟨rfl, HL1, HB⟩; have HL := hide (HL.out.trans (HL1.out.mono HL.out.size)); clear HL1; obtain ⟨f0, f1, f2⟩ := HB.out.cellsB)
        | (go_at_call_of 17 (Lv.nm b); refine (HSb.out _ ?_).mono ?_; exact HB.out; rintro e w' ⟨rfl, HL1, HB⟩; have HL := hide (HL.out.trans (HL1.out.mono HL.out.size)); clear HL1))
      all_goals
        go_wp2_with fail
        go_meet
        case rel => exact ⟨by rw [IntWalk.i64_in (2 + _) (by omega), IntWalk.i64_in _ (by omega)]; first | rfl | (congr 1; omega), HL.out⟩
    case rest =>
      rename_i wx
      obtain ⟨rfl, hbel⟩ := hcut
      have HS2 := hide (HS.out.below hbel)
      have HX2 := hide (HX.out.then hsz hbel)
      obtain ⟨f0, f1, f2⟩ := HX2.out.cellsA
      obtain ⟨f3, f4, f5⟩ := HX2.out.cellsB
      have hz := hbel.size
      clear g0 g1 g2 g3 g4 g5 HPa HPb HSa HSb hbel HS HX
      have HM := hide (tried_all (a := a) (b := b) (ps := b.addP (a.addP [])) (G := 2 + a.succs + b.succs) (fun p hp => hp.elim (fun h => Lv.addP_sub b _ p (Lv.addP_has a [] p h)) (fun h => Lv.addP_has b _ p h)) rfl)
      have hGb : 2 + a.succs + b.succs ≤ 3000 := by omega
      generalize hG : 2 + a.succs + b.succs = G at *
      clear hG sa sb
      generalize hns : b.addP (a.addP []) = ns at *
      clear hns
      obtain ⟨hm, A, cap, rfl, hc⟩ := HS2.out
      unfold maxLen at hm
      clear hc
      go_wp2_with fail
      go_loop [8, 9] (fun t i => ∃ k : Nat, k ≤ ns.length ∧ i = .int .i64 k ∧ t = .int .i64 (pw k : Nat)) (fun _ i => ns.length - (intOf i).toNat)
      case atStart => exact ⟨0, Nat.zero_le _, rfl, rfl⟩
      case round =>
        obtain ⟨k, hk, rfl, rfl⟩ := hrel
        have hp := pw_le (k := k) (by omega)
        by_cases hlt : k < ns.length
        · have HP := hide (pw_succ k)
          go_wp2_with fail
          go_round
          case rel => exact ⟨k + 1, by omega, by go_num, by rw [HP.out]; go_num⟩
          case measure => simp [intOf]; omega
        · have hke : k = ns.length := by omega
          subst hke
          have hpn := hp
          clear hp hlt hk
          obtain ⟨i0, hi, hz0, hz1, hz2⟩ := info_parts Try.info3
          go_wp2_with fail
          go_loopg [10] (pw ns.length) (fun g i wr => ∃ k : Nat, k + g = pw ns.length ∧ i = .int .i64 k ∧ (∀ k', k' < k → a.worth (look ns (digs G ns.length k')) ≤ b.worth (look ns (digs G ns.length k'))) ∧ Below (wc.heap.size + 1) (wc.alloc (.cells #[.int .i64 0, .int .i64 1, .int .i64 (G : Nat)] 3)) wr)
          case atStart => exact ⟨0, by omega, rfl, fun k' h => absurd h (by omega), Below.refl _ _⟩
          case round =>
            obtain ⟨k, hkg, rfl, hall, hbel⟩ := hrel
            have HAll := hide hall
            have HBel := hide hbel
            have hz3 := hbel.size
            simp at hz3
            clear hall hbel
            by_cases hlt : k < pw ns.length
            · go_wp2_with fail
              go_loopg [11, 12, 13] (ns.length) (fun g v r i wi => ∃ j : Nat, j + g = ns.length ∧ i = .int .i64 j ∧ r = .int .i64 (k / pw j : Nat) ∧ wi.ownsRow (wc.heap.size + 1) 3 1 v (digs G j k).length ((digs G j k).map fun n => .int .i64 (n : Nat)) ∧ Below (wc.heap.size + 1) (wc.alloc (.cells #[.int .i64 0, .int .i64 1, .int .i64 (G : Nat)] 3)) wi)
              case atStart => exact ⟨0, by omega, rfl, by simp [pw], World.ownsRow_nil _ _ _ _, HBel.out⟩
              case round =>
                obtain ⟨j, hjg, rfl, rfl, hown, hbel⟩ := hrel
                have hz4 := hbel.size
                simp at hz4
                have HDi := hide (Nat.div_div_eq_div_mul k (pw j) 3)
                have HSn := hide (digs_snoc G j k)
                have hdl := digs_len G j k
                have HPs := hide (pw_succ j)
                by_cases hjl : j < ns.length
                · have HR : Hid (vals G (k / 3 ^ j % 3) = vals G (k / pw j % 3)) := rfl
                  have hrle : k / pw j ≤ k := Nat.div_le_self ..
                  generalize hr : k / pw j = r at *
                  have HR2 := hide hr
                  clear hr
                  have hv := vals_cell wc G (r % 3) (Nat.mod_lt _ (by omega))
                  have hv2 := (hbel.cell (p := ⟨wc.heap.size, r % 3, none⟩) (by simp)).trans hv
                  have HO := hide hown
                  have HB2 := hide hbel
                  clear hv hown hbel hdl
                  generalize hvn : vals G (r % 3) = vn at *
                  go_wp2_with (at_builtin; refine wpList_append_placed _ rfl _ _ 46 rfl (wc.heap.size + 1) 3 i0 (.int .i64 0) 1 8 Try.underlying46 hi hz0 hz1 hz2 rfl (by decide) _ _ _ rfl (HO.out.alloc _) ⟨wr.heap.size, 0, none⟩ 1 1 [.int .i64 (vn : Nat)] rfl rfl ?c1 ?c2 (by decide) ?c3 ?c4 ?c5 ?_)
                  case c1 => exact cell_one_new _ _ _
                  case c2 => intro u hu; simp at hu; subst hu; rfl
                  case c3 => rw [digs_len]; unfold maxLen; omega
                  case c4 => rw [digs_len]; omega
                  case c5 => simp; omega
                  intro v' w' hown' hgrow _
                  have HO2 := hide hown'
                  have HB3 := hide (((HB2.out.alloc (by omega) _).grown hgrow (by simp; omega) fun k hk => (HO.out.lt k hk).1))
                  clear hown' hgrow
                  go_wp2_with fail
                  go_roundg (ns.length - (j + 1))
                  case measure => omega
                  case rel =>
                    refine ⟨j + 1, by omega, by go_num, ?_, ?_, HB3.out⟩
                    · rw [HPs.out, ← HDi.out]
                      rfl
                    · rw [HSn.out, HR.out]
                      simpa using HO2.out
                · have hje : j = ns.length := by omega
                  have HI := hide (InInts.of_owns hown)
                  have HB2 := hide hbel
                  subst hje
                  have hw : Below w.heap.size w wr := (HX2.out.old.trans (((Below.refl _ _).alloc (Nat.le_refl _) _).mono (by omega))).trans (HB2.out.mono (by omega))
                  have hw2 : Below wc.heap.size wc wr := ((Below.refl _ _).alloc (Nat.le_refl _) _).trans (HB2.out.mono (by omega))
                  have HWa := hide (Calls.since (W0 := wr) fun W hW => rworth_calls ns (digs G ns.length k) _ _ wr.heap.size (digs_len G _ _).symm (digs_le (by omega) (by omega) _ _) a _ W (by omega) hW.size ((HA.out.below (hw.mono hBw)).mono (Nat.le_trans hBw hw.size) |>.below hW) (((HS2.out.below (hw2.mono (by omega))).mono (by omega)).below hW) (HI.out.below hW))
                  have HWb := hide (Calls.since (W0 := wr) fun W hW => rworth_calls ns (digs G ns.length k) _ _ wr.heap.size (digs_len G _ _).symm (digs_le (by omega) (by omega) _ _) b _ W (by omega) hW.size ((HBb.out.below (hw.mono hBw)).mono (Nat.le_trans hBw hw.size) |>.below hW) (((HS2.out.below (hw2.mono (by omega))).mono (by omega)).below hW) (HI.out.below hW))
                  have q0 := cell_later hw2 f0
                  have q1 := cell_later hw2 f1
                  have q2 := cell_later hw2 f2
                  have q3 := cell_later hw2 f3
                  have q4 := cell_later hw2 f4
                  have q5 := cell_later hw2 f5
                  have HW := hide hw
                  have HLT : Hid (b.worth (look ns (digs G ns.length k)) < a.worth (look ns (digs G ns.length k)) → leB a b = false) := fun h => leB_false fun hle => by have := hle (look ns (digs G ns.length k)); omega
                  have HGE : Hid (¬ b.worth (look ns (digs G ns.length k)) < a.worth (look ns (digs G ns.length k)) → ∀ k', k' < k + 1 → a.worth (look ns (digs G ns.length k')) ≤ b.worth (look ns (digs G ns.length k'))) := fun h k' hk' => if e : k' = k then by subst e; omega else HAll.out k' (by omega)
                  generalize a.worth (look ns (digs G ns.length k)) = wa at *
                  generalize b.worth (look ns (digs G ns.length k)) = wb at *
                  clear hown hbel hdl HDi HSn HPs hw hw2 f0 f1 f2 f3 f4 f5
                  go_wp2_with fail
                  have HB := hide (Below.refl wr.heap.size wr).drew
                  by_cases hlt2 : wb < wa
                  · go_region_with (first
                      | (go_at_call_of 18 (Lv.nm a); refine (HWa.out _ ?_).mono ?_; exact HB.out; rintro e w' ⟨rfl, HB⟩; have r3 := cell_later HB.out q3; have r4 := cell_later HB.out q4; have r5 := cell_later HB.out q5)
                      | (go_at_call_of 18 (Lv.nm b); refine (HWb.out _ ?_).mono ?_; exact HB.out; rintro e w' ⟨rfl, HB⟩))
                    all_goals
                      go_wp2_with fail
                      go_ret
                      exact ⟨ret_bool (HLT.out hlt2).symm, HW.out.trans (HB.out.mono HW.out.size)⟩
                  · go_region_with (first
                      | (go_at_call_of 18 (Lv.nm a); refine (HWa.out _ ?_).mono ?_; exact HB.out; rintro e w' ⟨rfl, HB⟩; have r3 := cell_later HB.out q3; have r4 := cell_later HB.out q4; have r5 := cell_later HB.out q5)
                      | (go_at_call_of 18 (Lv.nm b); refine (HWb.out _ ?_).mono ?_; exact HB.out; rintro e w' ⟨rfl, HB⟩))
                    all_goals
                      go_wp2_with fail
                      go_roundg (pw ns.length - (k + 1))
                      case measure => omega
                      case rel => exact ⟨k + 1, by omega, by go_num, HGE.out hlt2, HB2.out.trans (HB.out.mono (by omega))⟩
            · go_wp2_with fail
              go_ret
              exact ⟨ret_bool (leB_true (HM.out fun k' hk' => HAll.out k' (by have : pw ns.length = 3 ^ ns.length := rfl; omega))).symm, (HX2.out.old.trans (((Below.refl _ _).alloc (Nat.le_refl _) _).mono (by have := HX2.out.size; omega))).trans (HBel.out.mono (by have := HX2.out.size; omega))⟩

end Go.Proofs.Ytdmlflgeihgfcaa
