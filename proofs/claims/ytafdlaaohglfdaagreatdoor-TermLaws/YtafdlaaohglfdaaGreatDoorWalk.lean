/- The statement's loop: for every script it answers true, and leaves the script alone. -/
import Derived.Test.YtafdlaaohglfdaaGreatDoorFacts

namespace Go.Proofs.YtafdlaaohglfdaaGreatDoor
open Go.RowKit

/-- A script as it came in: each step's six cells. -/
def IsOps (w : World) (a : Option Addr) (len : Nat) : Prop := len ≤ maxLen ∧ ∀ i, i < len → ∃ (b off : Nat) (kd x y : Int) (S T U : ByteArray), a = some ⟨b, off, none⟩ ∧ S.size ≤ maxLen ∧ T.size ≤ maxLen ∧ U.size ≤ maxLen ∧ (-9223372036854775808 ≤ x ∧ x ≤ 9223372036854775807 ∧ -9223372036854775808 ≤ y ∧ y ≤ 9223372036854775807) ∧
  w.cell? ⟨b, off + i * 6, none⟩ = some (.int .i64 kd) ∧ w.cell? ⟨b, off + i * 6 + 1, none⟩ = some (.string S) ∧ w.cell? ⟨b, off + i * 6 + 2, none⟩ = some (.string T) ∧ w.cell? ⟨b, off + i * 6 + 3, none⟩ = some (.string U) ∧
  w.cell? ⟨b, off + i * 6 + 4, none⟩ = some (.int .i64 x) ∧ w.cell? ⟨b, off + i * 6 + 5, none⟩ = some (.int .i64 y)

theorem wr1 (lx : Nat) (h : lx ≤ 5) : IntKind.i64.wrap ((lx : Int) + 1) = ((lx + 1 : Nat) : Int) := by
  have : lx = 0 ∨ lx = 1 ∨ lx = 2 ∨ lx = 3 ∨ lx = 4 ∨ lx = 5 := by omega
  rcases this with rfl | rfl | rfl | rfl | rfl | rfl <;> rfl

set_option maxRecDepth 100000 in
set_option maxHeartbeats 16000000 in
theorem laws_walk (ad : Option Addr) (len cap wb wo wc : Nat) (w : World) (h : IsOps w ad len) (ht : Laid wb wo wc w) :
    Calls Tryz.prog 3 #[.slice ad len cap] w fun e w' => e = .returned (.bool true) ∧ Below w.heap.size w w' := by
  obtain ⟨hm, hc⟩ := h
  unfold maxLen at hm
  have HC := hide hc
  have HTb := hide ht
  have K0 := hide (facts_calls wb wo wc w ht)
  clear hc ht
  go_enter Tryz.func3, Tryz.ntmps3
  go_wp2_with (go_at_call 4; refine K0.out.mono ?_)
  intro e w0 h9
  first | (subst h9; intro hb0) | (obtain ⟨rfl, hb0⟩ := h9)
  have HB0 := hide hb0
  clear hb0
  go_wp2_with fail
  go_loopg [4] (len) (fun g i wr => ∃ k : Nat, k + g = len ∧ i = .int .i64 k ∧ Below w.heap.size w wr)
  case atStart => exact ⟨0, by omega, rfl, HB0.out⟩
  case round =>
    obtain ⟨k, hkg, rfl, hbel⟩ := hrel
    have HB := hide hbel
    clear hbel HB0
    by_cases hlt : k < len
    · by_cases hmax : (k : Int) < 1152921504606846976
      · obtain ⟨bk, off, kd, x, y, S, T, U, rfl, hS, hT, hU, ⟨x0, x1, y0, y1⟩, c0, c1, c2, c3, c4, c5⟩ := HC.out k hlt
        have d0 := cell_later HB.out c0
        have d1 := cell_later HB.out c1
        have d2 := cell_later HB.out c2
        have d3 := cell_later HB.out c3
        have d4 := cell_later HB.out c4
        have d5 := cell_later HB.out c5
        have hL0 := (HTb.out.later HB.out).alloc (.cells #[.int .i64 kd, .string S, .string T, .string U, .int .i64 x, .int .i64 y] 25)
        have HO0 := hide (OB.new wr kd S T U x y)
        have K1 := hide (tparse_calls S wb wo wc _ hS hL0.words)
        have HL0 := hide hL0
        have HW0 : Hid (Below w.heap.size w (wr.alloc (.cells #[.int .i64 kd, .string S, .string T, .string U, .int .i64 x, .int .i64 y] 25))) := Below.al HB.out _
        clear hL0 c0 c1 c2 c3 c4 c5
        go_wp2_with (go_at_call 5; refine K1.out.mono ?_)
        intro e w1 h9
        obtain ⟨ka, na, nma, Aa, laa, lca, Ab, taa, tca, fc, fa, rfl, hb1, hgood1, hbad1⟩ := h9
        have HO1 := hide (HO0.out.later hb1)
        have HL1 := hide (HL0.out.later hb1)
        have HW1 := hide (Below.go HW0.out hb1)
        have HG1 := hide hgood1
        have o2 := HO1.out.c2
        have ol := HO1.out.lt
        clear hb1 hgood1 hbad1 K1 HO0 HL0 HW0 d0 d1 d2 d3 d4 d5
        have K2 := hide (fun W hW => tparse_calls T wb wo wc W hT hW)
        go_wp2_with (go_at_call 5; refine (K2.out _ ?_).mono ?_)
        · exact ((HL1.out.alloc _).alloc _).words
        intro e w2 h9
        obtain ⟨kb, nb, nmb, Ba, lab, lcb, Bb, tab, tcb, gc, ga, rfl, hb2, hgood2, hbad2⟩ := h9
        have hW1s : ((w1.alloc (.cells #[.int .i64 ka, .int .i64 na, .string nma, .slice Aa laa lca, .slice Ab taa tca] 29)).alloc (.cells #[.int .i64 (fc : Nat), .int .i64 (fa : Nat)] 31)).heap.size = w1.heap.size + 2 := by simp
        have HO2 := hide (((HO1.out.alloc _).alloc _).later hb2)
        have HL2 := hide (((HL1.out.alloc _).alloc _).later hb2)
        have HW2 := hide (Below.go (Below.al (Below.al HW1.out _) _) hb2)
        have fcell : w2.cell? ⟨w1.heap.size + 1, 0, none⟩ = some (.int .i64 (fc : Nat)) := by
          rw [hb2.cell (by show w1.heap.size + 1 < _; rw [hW1s]; omega)]
          simp [World.cell?_alloc_at]
        have fl : w1.heap.size + 1 < w2.heap.size := World.block_lt_of_cell? _ _ fcell
        have fl2 : w1.heap.size < w2.heap.size := by omega
        have HB2 : Hid (∀ d t, InTm w1 (fun _ => True) d t (.agg #[.int .i64 ka, .int .i64 na, .string nma, .slice Aa laa lca, .slice Ab taa tca]) → TB5 w2 w1.heap.size d t ⟨ka, na, nma, Aa, laa, lca, Ab, taa, tca⟩) := fun d t h => ((TB5.new h).alloc _).later hb2
        have HG2 := hide hgood2
        clear hb2 hgood2 hbad2 K2 HO1 HL1 HW1 o2 hW1s ol
        by_cases hfc : ¬ fc = 0
        · have q : ((fc : Int) != 0) = true := by simp; omega
          go_wp2_with fail
          go_roundg (len - (k + 1))
          case measure => omega
          case rel => exact ⟨k + 1, by omega, by go_num, Below.al (Below.al HW2.out _) _⟩

        rw [Classical.not_not] at hfc
        have q : ((fc : Int) != 0) = false := by simp [hfc]
        by_cases hgc : ¬ gc = 0
        · have q2 : ((gc : Int) != 0) = true := by simp; omega
          go_wp2_with fail
          go_roundg (len - (k + 1))
          case measure => omega
          case rel => exact ⟨k + 1, by omega, by go_num, Below.al (Below.al HW2.out _) _⟩

        rw [Classical.not_not] at hgc
        have q2 : ((gc : Int) != 0) = false := by simp [hgc]
        obtain ⟨D, hD⟩ : ∃ D, D = 20000 := ⟨_, rfl⟩
        obtain ⟨hsS, da, a, hina, hra⟩ := HG1.out hfc
        obtain ⟨hsT, db, b, hinb, hrb⟩ := HG2.out hgc
        obtain ⟨hwa, hpa, hina', hga⟩ := read_some hsS hra hina hD
        obtain ⟨hwb, hpb, hinb', hgb⟩ := read_some hsT hrb hinb hD
        have hD' : D ≤ 20000 := by omega
        have HF : Hid (Pair D a b) := ⟨hD', hwa, hwb, hpa, hpb, hga, hgb⟩
        have HS2 : Hid (St w wb wo wc wr.heap.size S T U x y [(w2.heap.size, D, b, (⟨kb, nb, nmb, Ba, lab, lcb, Bb, tab, tcb⟩ : T5)), (w1.heap.size, D, a, (⟨ka, na, nma, Aa, laa, lca, Ab, taa, tca⟩ : T5))] ((w2.alloc (.cells #[.int .i64 kb, .int .i64 nb, .string nmb, .slice Ba lab lcb, .slice Bb tab tcb] 29)).alloc (.cells #[.int .i64 (gc : Nat), .int .i64 (ga : Nat)] 31))) := ⟨(HO2.out.alloc _).alloc _, (HL2.out.alloc _).alloc _, Below.al (Below.al HW2.out _) _, fun p hp => by
          rcases List.mem_cons.1 hp with rfl | hp
          · exact (TB5.new hinb').alloc _
          · rcases List.mem_cons.1 hp with rfl | hp
            · exact ((HB2.out D a hina').alloc _).alloc _
            · exact absurd hp (by simp)⟩
        have HA2 := hide (HB2.out D a hina')
        clear hina hinb hina' hinb' hra hrb HG1 HG2 HB2 hD hwa hwb hpa hpb hga hgb HO2 HL2 HW2 hS hT hU hsS hsT
        have K3 : Hid (∀ W, St w wb wo wc wr.heap.size S T U x y [(w2.heap.size, D, b, (⟨kb, nb, nmb, Ba, lab, lcb, Bb, tab, tcb⟩ : T5)), (w1.heap.size, D, a, (⟨ka, na, nma, Aa, laa, lca, Ab, taa, tca⟩ : T5))] W → Calls Tryz.prog 6 #[.agg #[.int .i64 ka, .int .i64 na, .string nma, .slice Aa laa lca, .slice Ab taa tca], .agg #[.int .i64 kb, .int .i64 nb, .string nmb, .slice Ba lab lcb, .slice Bb tab tcb]] W fun en w' => ∃ r : Bool, en = .returned (.bool r) ∧ Below W.heap.size W w') := fun W h => much_calls D D a b _ _ W (by omega) HF.out.wa HF.out.wb (Nat.le_trans (nodesT_le D a) (Nat.le_trans HF.out.pa (by omega))) h.tail.t0.inn h.t0.inn
        obtain ⟨a0, a1, a2, a3, a4⟩ := HA2.out.cells
        have al := HA2.out.lt
        clear hfc hgc
        go_wp2_with (go_at_call 6; refine (K3.out _ HS2.out).mono ?_)
        intro e w3 h9
        obtain ⟨r, rfl, hb3⟩ := h9
        have HS3 := hide (HS2.out.later hb3)
        clear hb3 K3 HS2 HA2 a0 a1 a2 a3 a4 al fcell fl fl2 q q2
        cases r with
        | true =>
          go_wp2_with fail
          go_roundg (len - (k + 1))
          case measure => omega
          case rel => exact ⟨k + 1, by omega, by go_num, HS3.out.w⟩

        | false =>
        as_aux_lemma =>
        have o4 := HS3.out.o.c4
        have ol := HS3.out.o.lt
        have KL1 := hide (fun W => limit_calls x W x0 x1)
        have hm6 := limN_six x
        go_wp2_with (go_at_call 7; refine (KL1.out _).mono ?_)
        intro e w9 h9
        obtain ⟨rfl, rfl⟩ := h9
        clear KL1 o4 ol
        generalize hlx : limN x = lx at *
        clear hlx
        obtain ⟨X, hX⟩ : ∃ X : ByteArray, X = ⟨(textT D a).toArray⟩ := ⟨_, rfl⟩
        have HX := hide hX
        clear hX
        have KPA : Hid (∀ W d v, D ≤ d → InTm W (fun _ => True) d a v → Laid wb wo wc W → Calls Tryz.prog 8 #[v] W fun e w' => e = .returned (.string X) ∧ Below W.heap.size W w') := fun W d v hd h hl => q_print hl (HF.out.wa.mono hd) (by rw [partsT_fuel HF.out.wa hd]; have := HF.out.pa; omega) h (by rw [textT_fuel HF.out.wa hd]; exact HX.out)
        obtain ⟨a0, a1, a2, a3, a4⟩ := (HS3.out.tail.t0).cells
        have al := (HS3.out.tail.t0).lt
        go_wp2_with (go_at_call 8; refine (KPA.out _ D _ (Nat.le_refl _) HS3.out.tail.t0.inn HS3.out.l).mono ?_)
        intro e w4 h9
        first | (subst h9; intro hb4) | (obtain ⟨rfl, hb4⟩ := h9)
        have HS4 := hide (HS3.out.later hb4)
        clear hb4 HS3 a0 a1 a2 a3 a4 al
        go_upto_region 13 with fail
        go_cut [13] (fun v wx => v = .string X ∧ Hid (St w wb wo wc wr.heap.size S T U x y [(w2.heap.size, D, b, (⟨kb, nb, nmb, Ba, lab, lcb, Bb, tab, tcb⟩ : T5)), (w1.heap.size, D, a, (⟨ka, na, nma, Aa, laa, lca, Ab, taa, tca⟩ : T5))] wx))
        case first =>
          as_aux_lemma =>
          obtain ⟨a0, a1, a2, a3, a4⟩ := (HS4.out.tail.t0).cells
          have al := (HS4.out.tail.t0).lt
          obtain ⟨b0, b1, b2, b3, b4⟩ := (HS4.out.t0).cells
          have bl := (HS4.out.t0).lt
          have HD := hide HS4.out.drew
          have KC := hide (q_lift 1 0 (by omega) HF.out.wa (by omega) HD.out.tail.t0.inn)
          go_region_law (first
            | (refine step_madeT (f := 10) (B := w4.drew.heap.size) (d := D + 1) (t := chT (liftF 1 0) id D 0 a) rfl ?_ KC.out ?_
               · simp [go_sem]
               intro kz nz nmz Az lz cz Az' lz' cz' wz hinz hbz
               have HQ := hide (HS4.out.later (below_undrew hbz))
               obtain ⟨p0, p1, p2, p3, p4⟩ := (HQ.out.t0).cells
               have pl := (HQ.out.t0).lt
               have KS := hide (q_subst (HF.out.lifts 1 0 (by omega)).1 HF.out.wb (by omega) (by omega) hinz.any HQ.out.t0.inn)
               rw [subst_lift b D HF.out.wa HF.out.ga.idx (by omega)] at KS
               clear hbz hinz KC)
            | (refine step_madeT (f := 9) (B := wz.heap.size) (d := D + 1 + (D + 1)) (t := a) rfl ?_ KS.out ?_
               · simp [go_sem]
               intro kq nq nmq Aq lq cq Aq' lq' cq' wq hinq hbq
               have HR := hide (HQ.out.later hbq)
               have KP := hide (KPA.out wq (D + 1 + (D + 1)) _ (by omega) hinq.any HR.out.l)
               clear hbq hinq KS)
            | (refine step_value (f := 8) (v := .string X) rfl ?_ KP.out ?_
               · simp [go_sem]
               intro wy hby
               have HE := hide (HR.out.later hby)
               clear hby KP))
          all_goals
            go_wp2_with fail
            go_meet
            case rel => exact ⟨rfl, HE.out⟩
        case rest =>
        as_aux_lemma =>
        obtain ⟨rfl, HS5⟩ := hcut
        rename World => w5
        clear HS4
        have KQ := hide (q_parse HS5.out.l HF.out.wa HF.out.ga (by have := HF.out.pa; omega) HX.out)
        go_wp2_with (go_at_call 11; refine KQ.out.mono ?_)
        intro e w6 h9
        obtain ⟨kc, nc, nmc, Ca, lac, lcc, Cb, tac, tcc, ev, dc, c, rfl, hb6, hinc, hwc, hpc, hzc⟩ := h9
        have HS6 := hide (HS5.out.later hb6)
        have HP6 := hide (HS6.out.push (TB5.new hinc))
        have HWc := hide hwc
        have HZc := hide hzc
        clear hb6 hinc hwc hzc KQ HS5 HS6
        obtain ⟨Z, hZ⟩ : ∃ Z : ByteArray, Z = ⟨(textT dc c).toArray⟩ := ⟨_, rfl⟩
        have KZ := hide (q_print HP6.out.l HWc.out hpc HP6.out.t0.inn hZ)
        have HZ := hide hZ
        clear hZ
        obtain ⟨c0, c1, c2, c3, c4⟩ := (HP6.out.t0).cells
        have cl := (HP6.out.t0).lt
        go_wp2_with (go_at_call 8; refine KZ.out.mono ?_)
        intro e w7 h9
        first | (subst h9; intro hb7) | (obtain ⟨rfl, hb7⟩ := h9)
        have HS7 := hide (HP6.out.later hb7)
        clear hb7 HP6 KZ c0 c1 c2 c3 c4 cl
        obtain ⟨a0, a1, a2, a3, a4⟩ := (HS7.out.tail.tail.t0).cells
        have al := (HS7.out.tail.tail.t0).lt
        have KSp := hide (spine_calls w7.heap.size D a (.agg #[.int .i64 ka, .int .i64 na, .string nma, .slice Aa laa lca, .slice Ab taa tca]) w7 (by omega) (Nat.le_refl _) HF.out.wa HS7.out.tail.tail.t0.inn.inside)
        go_wp2_with (go_at_call 12; refine KSp.out.mono ?_)
        intro e w8 h9
        obtain ⟨kh, nh, nmh, Ha, lah, lch, Hb, tah, tch, A2, c2, rfl, hinh, hlst, hb8⟩ := h9
        have HS8 := hide (HS7.out.later hb8)
        have HP8 := hide (HS8.out.push (TB5.new hinh))
        have KAp := hide (q_apply HF.out.wa HF.out.ga hD' HP8.out.t0.inn (hlst.later ((Below.refl _ _).alloc (Nat.le_refl _) (.cells #[.int .i64 kh, .int .i64 nh, .string nmh, .slice Ha lah lch, .slice Hb tah tch] 29))))
        clear hinh hlst hb8 KSp HS7 HS8 a0 a1 a2 a3 a4 al
        generalize (backT D a).reverse.length = nl at *
        obtain ⟨h0, h1, h2, h3, h4⟩ := (HP8.out.t0).cells
        have hl := (HP8.out.t0).lt
        go_wp2_with (go_at_call 13; refine KAp.out.mono ?_)
        intro e w10 h9
        obtain ⟨kw, nw, nmw, Aw, law, lcw, Aw', taw, tcw, rfl, hinw, hb10⟩ := h9
        have HS10 := hide (HP8.out.later hb10)
        have KPw := hide (KPA.out w10 _ _ (by omega) hinw.any HS10.out.l)
        clear hinw hb10 KAp HP8 h0 h1 h2 h3 h4 hl
        go_wp2_with (go_at_call 8; refine KPw.out.mono ?_)
        intro e w11 h9
        first | (subst h9; intro hb11) | (obtain ⟨rfl, hb11⟩ := h9)
        have HS11 : Hid (St w wb wo wc wr.heap.size S T U x y [(w2.heap.size, D, b, (⟨kb, nb, nmb, Ba, lab, lcb, Bb, tab, tcb⟩ : T5)), (w1.heap.size, D, a, (⟨ka, na, nma, Aa, laa, lca, Ab, taa, tca⟩ : T5))] w11) := ((HS10.out.later hb11).tail).tail
        clear hb11 HS10 KPw
        go_upto_region 18 with fail
        go_cut [103] (fun v wx => v = .bool false ∧ wx = w11)
        case first =>
          as_aux_lemma =>
          by_cases hsz : X.size ≤ 20000
          · obtain ⟨rfl, hZX⟩ := HZc.out hsz
            have hq : Z = X := HZ.out.trans hZX.symm
            clear hZX
            subst hq
            have hq2 : decide ((Z.size : Int) ≤ 20000) = true := by simp; omega
            go_wp2_with fail
            go_meet
            case rel => exact ⟨rfl, rfl⟩
          · have hq2 : decide ((X.size : Int) ≤ 20000) = false := by simp; omega
            go_wp2_with fail
            go_meet
            case rel => exact ⟨rfl, rfl⟩
        case rest =>
        as_aux_lemma =>
        obtain ⟨rfl, hw11⟩ := hcut
        rename World => w11b
        subst hw11
        clear HZ HZc
        have KSu := hide (q_subst HF.out.wa HF.out.wb (by omega) (by omega) HS11.out.tail.t0.inn HS11.out.t0.inn)
        obtain ⟨a0, a1, a2, a3, a4⟩ := (HS11.out.tail.t0).cells
        have al := (HS11.out.tail.t0).lt
        obtain ⟨b0, b1, b2, b3, b4⟩ := (HS11.out.t0).cells
        have bl := (HS11.out.t0).lt
        go_wp2_with (go_at_call 9; refine KSu.out.mono ?_)
        intro e w12 h9
        obtain ⟨kp, np, nmp, Ap, lap, lcp, Ap', tap, tcp, rfl, hinp, hb12⟩ := h9
        have HS12 := hide (HS11.out.later hb12)
        have KLp := hide (q_lift 2 lx (by omega) (HF.out.sub lx).1 (by omega) hinp.any)
        clear hinp hb12 KSu HS11 a0 a1 a2 a3 a4 al b0 b1 b2 b3 b4 bl
        go_wp2_with (go_at_call 10; refine KLp.out.mono ?_)
        intro e w13 h9
        obtain ⟨kp2, np2, nmp2, Ap2, lap2, lcp2, Ap2', tap2, tcp2, rfl, hinp, hb13⟩ := h9
        have HS13 := hide (HS12.out.later hb13)
        obtain ⟨R, hR⟩ : ∃ R : Tm, R = chT (liftF 2 lx) id (D + (D + 1)) 0 (chT (substF b D) id D 0 a) := ⟨_, rfl⟩
        have hwR : WfT (D + (D + 1) + 1) R ∧ partsT (D + (D + 1) + 1) R ≤ 400000000 := by rw [hR]; exact (HF.out.sub lx).2
        rw [← hR] at hinp
        obtain ⟨Y, hY⟩ : ∃ Y : ByteArray, Y = ⟨(textT (D + (D + 1) + 1) R).toArray⟩ := ⟨_, rfl⟩
        have KPR : Hid (∀ W d v, D + (D + 1) + 1 ≤ d → InTm W (fun _ => True) d R v → Laid wb wo wc W → Calls Tryz.prog 8 #[v] W fun e w' => e = .returned (.string Y) ∧ Below W.heap.size W w') := fun W d v hd h hl => q_print hl (hwR.1.mono hd) (by rw [partsT_fuel hwR.1 hd]; exact hwR.2) h (by rw [textT_fuel hwR.1 hd]; exact hY)
        have HR := hide hR
        have KPp := hide (KPR.out w13 _ _ (Nat.le_refl _) hinp.any HS13.out.l)
        clear hinp hb13 KLp HS12 hR hY hwR
        go_wp2_with (go_at_call 8; refine KPp.out.mono ?_)
        intro e w14 h9
        first | (subst h9; intro hb14) | (obtain ⟨rfl, hb14⟩ := h9)
        have HS14 := hide (HS13.out.later hb14)
        clear hb14 KPp HS13
        go_upto_region 23 with fail
        go_cut [21] (fun v wx => v = .string Y ∧ Hid (St w wb wo wc wr.heap.size S T U x y [(w2.heap.size, D, b, (⟨kb, nb, nmb, Ba, lab, lcb, Bb, tab, tcb⟩ : T5)), (w1.heap.size, D, a, (⟨ka, na, nma, Aa, laa, lca, Ab, taa, tca⟩ : T5))] wx))
        case first =>
          as_aux_lemma =>
          obtain ⟨a0, a1, a2, a3, a4⟩ := (HS14.out.tail.t0).cells
          have al := (HS14.out.tail.t0).lt
          obtain ⟨b0, b1, b2, b3, b4⟩ := (HS14.out.t0).cells
          have bl := (HS14.out.t0).lt
          have KA : Hid (∀ (W : World) (z : Int), z = ((lx + 1 : Nat) : Int) → Below w14.heap.size w14 W → Calls Tryz.prog 10 #[.agg #[.int .i64 ka, .int .i64 na, .string nma, .slice Aa laa lca, .slice Ab taa tca], .int .i64 2, .int .i64 z] W fun en w' => ∃ (kq nq : Int) (nmq : ByteArray) (Aq : Option Addr) (lq cq : Nat) (Aq' : Option Addr) (lq' cq' : Nat), en = .returned (.agg #[.int .i64 kq, .int .i64 nq, .string nmq, .slice Aq lq cq, .slice Aq' lq' cq']) ∧ Hid (InTm w' (fun _ => True) (D + 1) (chT (liftF 2 (lx + 1)) id D 0 a) (.agg #[.int .i64 kq, .int .i64 nq, .string nmq, .slice Aq lq cq, .slice Aq' lq' cq']) ∧ Below w14.heap.size w14 w') ∧ (w'.cell? ⟨w1.heap.size, 0, none⟩ = some (.int .i64 ka) ∧ w'.cell? ⟨w1.heap.size, 1, none⟩ = some (.int .i64 na) ∧ w'.cell? ⟨w1.heap.size, 2, none⟩ = some (.string nma) ∧ w'.cell? ⟨w1.heap.size, 3, none⟩ = some (.slice Aa laa lca) ∧ w'.cell? ⟨w1.heap.size, 4, none⟩ = some (.slice Ab taa tca)) ∧ (w'.cell? ⟨w2.heap.size, 0, none⟩ = some (.int .i64 kb) ∧ w'.cell? ⟨w2.heap.size, 1, none⟩ = some (.int .i64 nb) ∧ w'.cell? ⟨w2.heap.size, 2, none⟩ = some (.string nmb) ∧ w'.cell? ⟨w2.heap.size, 3, none⟩ = some (.slice Ba lab lcb) ∧ w'.cell? ⟨w2.heap.size, 4, none⟩ = some (.slice Bb tab tcb))) := fun W z hz hW => by
            have h := q_lift 2 (lx + 1) (by omega) HF.out.wa (by omega) (HS14.out.later hW).tail.t0.inn
            rw [← hz] at h
            refine h.mono ?_
            rintro en w' ⟨kq, nq, nmq, Aq, lq, cq, Aq', lq', cq', rfl, hin, hb⟩
            have hW' := Below.go hW hb
            exact ⟨_, _, _, _, _, _, _, _, _, rfl, ⟨hin.any, hW'⟩, (HS14.out.later hW').tail.t0.cells, (HS14.out.later hW').t0.cells⟩
          have KB : Hid (∀ (W : World) (kq nq : Int) (nmq : ByteArray) (Aq : Option Addr) (lq cq : Nat) (Aq' : Option Addr) (lq' cq' : Nat), Hid (InTm W (fun _ => True) (D + 1) (chT (liftF 2 (lx + 1)) id D 0 a) (.agg #[.int .i64 kq, .int .i64 nq, .string nmq, .slice Aq lq cq, .slice Aq' lq' cq']) ∧ Below w14.heap.size w14 W) → Calls Tryz.prog 10 #[.agg #[.int .i64 kb, .int .i64 nb, .string nmb, .slice Ba lab lcb, .slice Bb tab tcb], .int .i64 2, .int .i64 (lx : Nat)] W fun en w' => ∃ (ku nu : Int) (nmu : ByteArray) (Au : Option Addr) (lu cu : Nat) (Au' : Option Addr) (lu' cu' : Nat), en = .returned (.agg #[.int .i64 ku, .int .i64 nu, .string nmu, .slice Au lu cu, .slice Au' lu' cu']) ∧ Hid (InTm w' (fun _ => True) (D + 1) (chT (liftF 2 (lx + 1)) id D 0 a) (.agg #[.int .i64 kq, .int .i64 nq, .string nmq, .slice Aq lq cq, .slice Aq' lq' cq']) ∧ InTm w' (fun _ => True) (D + 1) (chT (liftF 2 lx) id D 0 b) (.agg #[.int .i64 ku, .int .i64 nu, .string nmu, .slice Au lu cu, .slice Au' lu' cu']) ∧ Below w14.heap.size w14 w') ∧ (w'.cell? ⟨w1.heap.size, 0, none⟩ = some (.int .i64 ka) ∧ w'.cell? ⟨w1.heap.size, 1, none⟩ = some (.int .i64 na) ∧ w'.cell? ⟨w1.heap.size, 2, none⟩ = some (.string nma) ∧ w'.cell? ⟨w1.heap.size, 3, none⟩ = some (.slice Aa laa lca) ∧ w'.cell? ⟨w1.heap.size, 4, none⟩ = some (.slice Ab taa tca)) ∧ (w'.cell? ⟨w2.heap.size, 0, none⟩ = some (.int .i64 kb) ∧ w'.cell? ⟨w2.heap.size, 1, none⟩ = some (.int .i64 nb) ∧ w'.cell? ⟨w2.heap.size, 2, none⟩ = some (.string nmb) ∧ w'.cell? ⟨w2.heap.size, 3, none⟩ = some (.slice Ba lab lcb) ∧ w'.cell? ⟨w2.heap.size, 4, none⟩ = some (.slice Bb tab tcb))) := fun W kq nq nmq Aq lq cq Aq' lq' cq' hQ => by
            refine (q_lift 2 lx (by omega) HF.out.wb (by omega) (HS14.out.later hQ.out.2).t0.inn).mono ?_
            rintro en w' ⟨ku, nu, nmu, Au, lu, cu, Au', lu', cu', rfl, hin, hb⟩
            have hW' := Below.go hQ.out.2 hb
            exact ⟨_, _, _, _, _, _, _, _, _, rfl, ⟨hQ.out.1.on hb, hin.any, hW'⟩, (HS14.out.later hW').tail.t0.cells, (HS14.out.later hW').t0.cells⟩
          have KS : Hid (∀ (W : World) (kq nq : Int) (nmq : ByteArray) (Aq : Option Addr) (lq cq : Nat) (Aq' : Option Addr) (lq' cq' : Nat) (ku nu : Int) (nmu : ByteArray) (Au : Option Addr) (lu cu : Nat) (Au' : Option Addr) (lu' cu' : Nat), Hid (InTm W (fun _ => True) (D + 1) (chT (liftF 2 (lx + 1)) id D 0 a) (.agg #[.int .i64 kq, .int .i64 nq, .string nmq, .slice Aq lq cq, .slice Aq' lq' cq']) ∧ InTm W (fun _ => True) (D + 1) (chT (liftF 2 lx) id D 0 b) (.agg #[.int .i64 ku, .int .i64 nu, .string nmu, .slice Au lu cu, .slice Au' lu' cu']) ∧ Below w14.heap.size w14 W) → Calls Tryz.prog 9 #[.agg #[.int .i64 kq, .int .i64 nq, .string nmq, .slice Aq lq cq, .slice Aq' lq' cq'], .agg #[.int .i64 ku, .int .i64 nu, .string nmu, .slice Au lu cu, .slice Au' lu' cu']] W fun en w' => ∃ (kr nr : Int) (nmr : ByteArray) (Ar : Option Addr) (lr cr : Nat) (Ar' : Option Addr) (lr' cr' : Nat), en = .returned (.agg #[.int .i64 kr, .int .i64 nr, .string nmr, .slice Ar lr cr, .slice Ar' lr' cr']) ∧ Hid (InTm w' (fun _ => True) (D + 1 + (D + 1 + 1)) R (.agg #[.int .i64 kr, .int .i64 nr, .string nmr, .slice Ar lr cr, .slice Ar' lr' cr']) ∧ Below w14.heap.size w14 w') ∧ (w'.cell? ⟨w1.heap.size, 0, none⟩ = some (.int .i64 ka) ∧ w'.cell? ⟨w1.heap.size, 1, none⟩ = some (.int .i64 na) ∧ w'.cell? ⟨w1.heap.size, 2, none⟩ = some (.string nma) ∧ w'.cell? ⟨w1.heap.size, 3, none⟩ = some (.slice Aa laa lca) ∧ w'.cell? ⟨w1.heap.size, 4, none⟩ = some (.slice Ab taa tca)) ∧ (w'.cell? ⟨w2.heap.size, 0, none⟩ = some (.int .i64 kb) ∧ w'.cell? ⟨w2.heap.size, 1, none⟩ = some (.int .i64 nb) ∧ w'.cell? ⟨w2.heap.size, 2, none⟩ = some (.string nmb) ∧ w'.cell? ⟨w2.heap.size, 3, none⟩ = some (.slice Ba lab lcb) ∧ w'.cell? ⟨w2.heap.size, 4, none⟩ = some (.slice Bb tab tcb))) := fun W kq nq nmq Aq lq cq Aq' lq' cq' ku nu nmu Au lu cu Au' lu' cu' hQ => by
            have h := q_subst (HF.out.lifts 2 (lx + 1) (by omega)).1 (HF.out.lifts 2 lx (by omega)).2.1 (by omega) (by omega) hQ.out.1 hQ.out.2.1
            rw [← lift_subst lx HF.out.wb HF.out.gb.idx (by omega) HF.out.wa HF.out.ga.idx (by omega), ← HR.out] at h
            refine h.mono ?_
            rintro en w' ⟨kr, nr, nmr, Ar, lr, cr, Ar', lr', cr', rfl, hin, hb⟩
            have hW' := Below.go hQ.out.2.2 hb
            exact ⟨_, _, _, _, _, _, _, _, _, rfl, ⟨hin.any, hW'⟩, (HS14.out.later hW').tail.t0.cells, (HS14.out.later hW').t0.cells⟩
          have KP : Hid (∀ (W : World) (kr nr : Int) (nmr : ByteArray) (Ar : Option Addr) (lr cr : Nat) (Ar' : Option Addr) (lr' cr' : Nat), Hid (InTm W (fun _ => True) (D + 1 + (D + 1 + 1)) R (.agg #[.int .i64 kr, .int .i64 nr, .string nmr, .slice Ar lr cr, .slice Ar' lr' cr']) ∧ Below w14.heap.size w14 W) → Calls Tryz.prog 8 #[.agg #[.int .i64 kr, .int .i64 nr, .string nmr, .slice Ar lr cr, .slice Ar' lr' cr']] W fun en w' => en = .returned (.string Y) ∧ Hid (Below w14.heap.size w14 w') ∧ (w'.cell? ⟨w1.heap.size, 0, none⟩ = some (.int .i64 ka) ∧ w'.cell? ⟨w1.heap.size, 1, none⟩ = some (.int .i64 na) ∧ w'.cell? ⟨w1.heap.size, 2, none⟩ = some (.string nma) ∧ w'.cell? ⟨w1.heap.size, 3, none⟩ = some (.slice Aa laa lca) ∧ w'.cell? ⟨w1.heap.size, 4, none⟩ = some (.slice Ab taa tca)) ∧ (w'.cell? ⟨w2.heap.size, 0, none⟩ = some (.int .i64 kb) ∧ w'.cell? ⟨w2.heap.size, 1, none⟩ = some (.int .i64 nb) ∧ w'.cell? ⟨w2.heap.size, 2, none⟩ = some (.string nmb) ∧ w'.cell? ⟨w2.heap.size, 3, none⟩ = some (.slice Ba lab lcb) ∧ w'.cell? ⟨w2.heap.size, 4, none⟩ = some (.slice Bb tab tcb))) := fun W kr nr nmr Ar lr cr Ar' lr' cr' hQ => by
            refine (KPR.out W (D + 1 + (D + 1 + 1)) _ (by omega) hQ.out.1 (HS14.out.later hQ.out.2).l).mono ?_
            rintro en w' ⟨rfl, hb⟩
            have hW' := Below.go hQ.out.2 hb
            exact ⟨rfl, hW', (HS14.out.later hW').tail.t0.cells, (HS14.out.later hW').t0.cells⟩
          go_region_held3 (fun w' => (w'.cell? ⟨w1.heap.size, 0, none⟩ = some (.int .i64 ka) ∧ w'.cell? ⟨w1.heap.size, 1, none⟩ = some (.int .i64 na) ∧ w'.cell? ⟨w1.heap.size, 2, none⟩ = some (.string nma) ∧ w'.cell? ⟨w1.heap.size, 3, none⟩ = some (.slice Aa laa lca) ∧ w'.cell? ⟨w1.heap.size, 4, none⟩ = some (.slice Ab taa tca)) ∧ (w'.cell? ⟨w2.heap.size, 0, none⟩ = some (.int .i64 kb) ∧ w'.cell? ⟨w2.heap.size, 1, none⟩ = some (.int .i64 nb) ∧ w'.cell? ⟨w2.heap.size, 2, none⟩ = some (.string nmb) ∧ w'.cell? ⟨w2.heap.size, 3, none⟩ = some (.slice Ba lab lcb) ∧ w'.cell? ⟨w2.heap.size, 4, none⟩ = some (.slice Bb tab tcb))) (go_keep) (first
            | (go_at_call_of 10 (Value.agg #[.int .i64 ka, .int .i64 na, .string nma, .slice Aa laa lca, .slice Ab taa tca]); refine (KA.out _ _ (by first | exact wr1 _ hm6 | omega) ?_).mono ?_; (repeat' (first | exact Below.refl _ _ | refine Below.drew ?_)); rintro e wq ⟨kq, nq, nmq, Aq, lq, cq, Aq', lq', cq', rfl, HQ, ⟨a0, a1, a2, a3, a4⟩, ⟨b0, b1, b2, b3, b4⟩⟩)
            | (go_at_call_of 10 (Value.agg #[.int .i64 kb, .int .i64 nb, .string nmb, .slice Ba lab lcb, .slice Bb tab tcb]); refine (KB.out _ _ _ _ _ _ _ _ _ _ HQ).mono ?_; rintro e wu ⟨ku, nu, nmu, Au, lu, cu, Au', lu', cu', rfl, HU, ⟨a0, a1, a2, a3, a4⟩, ⟨b0, b1, b2, b3, b4⟩⟩)
            | (go_at_call 9; refine (KS.out _ _ _ _ _ _ _ _ _ _ _ _ _ _ _ _ _ _ _ HU).mono ?_; rintro e wv ⟨kr, nr, nmr, Ar, lr, cr, Ar', lr', cr', rfl, HV, ⟨a0, a1, a2, a3, a4⟩, ⟨b0, b1, b2, b3, b4⟩⟩)
            | (go_at_call 8; refine (KP.out _ _ _ _ _ _ _ _ _ _ HV).mono ?_; rintro e wy ⟨rfl, HE, ⟨a0, a1, a2, a3, a4⟩, ⟨b0, b1, b2, b3, b4⟩⟩))
          all_goals
            go_wp2_with fail
            go_meet
            case rel => exact ⟨by first | rfl | simp, HS14.out.later HE.out⟩
        case rest =>
        as_aux_lemma =>
        obtain ⟨rfl, HS15⟩ := hcut
        rename World => w15
        clear HS14 KPR HR
        have KCl := hide (closed_calls lx (by omega) D a (.agg #[.int .i64 ka, .int .i64 na, .string nma, .slice Aa laa lca, .slice Ab taa tca]) _ w15 HF.out.wa (by omega) HS15.out.tail.t0.inn)
        obtain ⟨a0, a1, a2, a3, a4⟩ := (HS15.out.tail.t0).cells
        have al := (HS15.out.tail.t0).lt
        go_wp2_with (go_at_call 14; refine KCl.out.mono ?_)
        intro e w16 h9
        first | (subst h9; intro hb16) | (obtain ⟨rfl, hb16⟩ := h9)
        have HS16 := hide (HS15.out.later hb16)
        clear hb16 KCl HS15 a0 a1 a2 a3 a4 al
        have HCl : Hid (closedT D lx a = true → chT (liftF 3 lx) id D 0 a = a) := fun h => lift_closed 3 lx HF.out.wa (by rw [Nat.add_zero]; exact h)
        generalize closedT D lx a = cl at *
        have KL3 := hide (q_lift 3 lx (by omega) HF.out.wa (by omega) HS16.out.tail.t0.inn)
        obtain ⟨a0, a1, a2, a3, a4⟩ := (HS16.out.tail.t0).cells
        have al := (HS16.out.tail.t0).lt
        go_wp2_with (go_at_call 10; refine KL3.out.mono ?_)
        intro e w17 h9
        obtain ⟨kr, nr, nmr, Ar, lar, lcr, Ar', tar, tcr, rfl, hinr, hb17⟩ := h9
        have HS17 := hide (HS16.out.later hb17)
        obtain ⟨Q, hQ⟩ : ∃ Q : ByteArray, Q = ⟨(textT (D + 1) (chT (liftF 3 lx) id D 0 a)).toArray⟩ := ⟨_, rfl⟩
        have KPr := hide (q_print HS17.out.l (HF.out.lifts 3 lx (by omega)).1 (HF.out.lifts 3 lx (by omega)).2.2 hinr.any hQ)
        have HQX : Hid (cl = true → Q = X) := fun h => by rw [hQ, HCl.out h, textT_fuel HF.out.wa (by omega)]; exact HX.out.symm
        clear hinr hb17 KL3 HS16 a0 a1 a2 a3 a4 al hQ HCl
        go_wp2_with (go_at_call 8; refine KPr.out.mono ?_)
        intro e w18 h9
        first | (subst h9; intro hb18) | (obtain ⟨rfl, hb18⟩ := h9)
        have HS18 := hide (HS17.out.later hb18)
        clear hb18 KPr HS17
        cases cl with
        | false =>
          go_wp2_with fail
          go_roundg (len - (k + 1))
          case measure => omega
          case rel => exact ⟨k + 1, by omega, by go_num, HS18.out.w⟩

        | true =>
          have hQX := HQX.out rfl
          subst hQX
          go_wp2_with fail
          go_roundg (len - (k + 1))
          case measure => omega
          case rel => exact ⟨k + 1, by omega, by go_num, HS18.out.w⟩

      · go_wp2_with fail
        go_ret
        exact ⟨rfl, HB.out⟩
    · go_wp2_with fail
      go_ret
      exact ⟨rfl, HB.out⟩

end Go.Proofs.YtafdlaaohglfdaaGreatDoor
