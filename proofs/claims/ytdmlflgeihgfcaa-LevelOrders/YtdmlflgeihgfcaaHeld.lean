/- The contract of the statement's step: for two texts that are levels with at most six names and 300 signs, the program's Leq and Same answer as the document's; in every other case the step says nothing. -/
import Derived.Test.YtdmlflgeihgfcaaParse
import Derived.Test.YtdmlflgeihgfcaaRefSame
import Derived.Deep.DeepCutAuto
namespace Go.Proofs.Ytdmlflgeihgfcaa
open Go.RowKit

theorem parse_calls (s : ByteArray) (w : World) (hm : s.size ≤ maxLen) : Calls Try.prog 5 #[.string s] w fun e w' => Parsed w s e w' := by
  by_cases h : s.size ≤ 20000
  · exact parse_short s w h
  · exact parse_long s w (by omega) hm

set_option maxHeartbeats 4000000 in
theorem held_calls (kd x y : Int) (S T U : ByteArray) (w : World) (hS : S.size ≤ maxLen) (hT : T.size ≤ maxLen) :
    Calls Try.prog 4 #[.agg #[.int .i64 kd, .string S, .string T, .string U, .int .i64 x, .int .i64 y]] w fun e w' => e = .returned (.bool true) ∧ Below w.heap.size w w' := by
  have HS := hide (fun W => parse_calls S W hS)
  have HT := hide (fun W => parse_calls T W hT)
  unfold maxLen at hS hT
  go_enter Try.func4, Try.ntmps4
  go_wp2_with (go_at_call 5; refine (HS.out _).mono ?_)
  rintro e w1 ⟨k1, nm1, A1, n1, cap1, c1, a1, rfl, hb1, hp1⟩
  have hz1 := hb1.size
  simp at hz1
  have HB1 : Hid (Below (w.heap.size + 1) (w.alloc (.cells #[.int .i64 kd, .string S, .string T, .string U, .int .i64 x, .int .i64 y] 25)) w1) := by simpa [Hid] using hb1
  have o2 : w1.cell? ⟨w.heap.size, 2, none⟩ = some (.string T) := by rw [HB1.out.cell (by simp)]; simp
  have l0 : w.heap.size < w1.heap.size := by omega
  have HP1 := hide hp1
  clear hb1 hp1
  go_wp2_with (go_at_call 5; refine (HT.out _).mono ?_)
  rintro e w2 ⟨k2, nm2, A2, n2, cap2, c2, a2, rfl, hb2, hp2⟩
  have hz2 := hb2.size
  simp at hz2
  have HB2 : Hid (Below (w1.heap.size + 2) ((w1.alloc (.cells #[.int .i64 k1, .string nm1, .slice A1 n1 cap1] 29)).alloc (.cells #[.int .i64 (c1 : Nat), .int .i64 (a1 : Nat)] 31)) w2) := by simpa [Hid] using hb2
  have HP2 := hide hp2
  clear hb2 hp2 o2
  go_upto_region 3 with fail
  have hold2 : Below w2.heap.size w2 ((w2.alloc (.cells #[.int .i64 k2, .string nm2, .slice A2 n2 cap2] 29)).alloc (.cells #[.int .i64 (c2 : Nat), .int .i64 (a2 : Nat)] 31)) := ((Below.refl _ _).alloc (Nat.le_refl _) _).alloc (by simp) _
  have b0 : ((w2.alloc (.cells #[.int .i64 k2, .string nm2, .slice A2 n2 cap2] 29)).alloc (.cells #[.int .i64 (c2 : Nat), .int .i64 (a2 : Nat)] 31)).cell? ⟨w2.heap.size, 0, none⟩ = some (.int .i64 k2) := by simp
  have b1 : ((w2.alloc (.cells #[.int .i64 k2, .string nm2, .slice A2 n2 cap2] 29)).alloc (.cells #[.int .i64 (c2 : Nat), .int .i64 (a2 : Nat)] 31)).cell? ⟨w2.heap.size, 1, none⟩ = some (.string nm2) := by simp
  have b2 : ((w2.alloc (.cells #[.int .i64 k2, .string nm2, .slice A2 n2 cap2] 29)).alloc (.cells #[.int .i64 (c2 : Nat), .int .i64 (a2 : Nat)] 31)).cell? ⟨w2.heap.size, 2, none⟩ = some (.slice A2 n2 cap2) := by simp
  have g0 : ((w2.alloc (.cells #[.int .i64 k2, .string nm2, .slice A2 n2 cap2] 29)).alloc (.cells #[.int .i64 (c2 : Nat), .int .i64 (a2 : Nat)] 31)).cell? ⟨w2.heap.size + 1, 0, none⟩ = some (.int .i64 (c2 : Nat)) := by simp [World.cell?_alloc_at]
  have hz3 : ((w2.alloc (.cells #[.int .i64 k2, .string nm2, .slice A2 n2 cap2] 29)).alloc (.cells #[.int .i64 (c2 : Nat), .int .i64 (a2 : Nat)] 31)).heap.size = w2.heap.size + 2 := by simp
  generalize (w2.alloc (.cells #[.int .i64 k2, .string nm2, .slice A2 n2 cap2] 29)).alloc (.cells #[.int .i64 (c2 : Nat), .int .i64 (a2 : Nat)] 31) = W3 at *
  have hold1 : Below (w1.heap.size + 2) ((w1.alloc (.cells #[.int .i64 k1, .string nm1, .slice A1 n1 cap1] 29)).alloc (.cells #[.int .i64 (c1 : Nat), .int .i64 (a1 : Nat)] 31)) W3 := HB2.out.trans (hold2.mono (by omega))
  have p0 : W3.cell? ⟨w1.heap.size, 0, none⟩ = some (.int .i64 k1) := by rw [hold1.cell (by simp)]; simp
  have p1 : W3.cell? ⟨w1.heap.size, 1, none⟩ = some (.string nm1) := by rw [hold1.cell (by simp)]; simp
  have p2 : W3.cell? ⟨w1.heap.size, 2, none⟩ = some (.slice A1 n1 cap1) := by rw [hold1.cell (by simp)]; simp
  have f0 : W3.cell? ⟨w1.heap.size + 1, 0, none⟩ = some (.int .i64 (c1 : Nat)) := by rw [hold1.cell (by simp)]; simp [World.cell?_alloc_at]
  have hold1' : Below w1.heap.size w1 W3 := (((Below.refl _ _).alloc (Nat.le_refl _) _).alloc (by simp) _).trans (hold1.mono (by omega))
  have hold0 : Below (w.heap.size + 1) (w.alloc (.cells #[.int .i64 kd, .string S, .string T, .string U, .int .i64 x, .int .i64 y] 25)) W3 := HB1.out.trans (hold1'.mono (by omega))
  have o1 : W3.cell? ⟨w.heap.size, 1, none⟩ = some (.string S) := by rw [hold0.cell (by simp)]; simp
  have o2 : W3.cell? ⟨w.heap.size, 2, none⟩ = some (.string T) := by rw [hold0.cell (by simp)]; simp
  have HW : Hid (Below w.heap.size w W3) := ((Below.refl _ _).alloc (Nat.le_refl _) _).trans (hold0.mono (by omega))
  have HL1 : Hid (c1 = 0 → S.size ≤ 20000 ∧ ∃ l : LvB, InLv W3 W3.heap.size l (.agg #[.int .i64 k1, .string nm1, .slice A1 n1 cap1]) ∧ l.nodes ≤ S.size ∧ ∀ q, Lv.has q l → q.size ≤ 1000) := fun h => by
    obtain ⟨hz, l, h1, h2, h3⟩ := HP1.out h
    exact ⟨hz, l, (h1.below hold1').mono (by omega), h2, h3⟩
  have HL2 : Hid (c2 = 0 → T.size ≤ 20000 ∧ ∃ l : LvB, InLv W3 W3.heap.size l (.agg #[.int .i64 k2, .string nm2, .slice A2 n2 cap2]) ∧ l.nodes ≤ T.size ∧ ∀ q, Lv.has q l → q.size ≤ 1000) := fun h => by
    obtain ⟨hz, l, h1, h2, h3⟩ := HP2.out h
    exact ⟨hz, l, (h1.below hold2).mono (by omega), h2, h3⟩
  clear hold0 hold1 hold1' hold2 HB1 HB2 HP1 HP2 HS HT
  by_cases hc1 : c1 = 0
  · have e1 : ((c1 : Int) != 0) = false := by simp [hc1]
    by_cases hc2 : c2 = 0
    · have e2 : ((c2 : Int) != 0) = false := by simp [hc2]
      obtain ⟨zS, la, ia, na, ma⟩ := HL1.out hc1
      obtain ⟨zT, lb, ib, nb, mb⟩ := HL2.out hc2
      have hcells : ∀ w', Below W3.heap.size W3 w' → w'.cell? ⟨w1.heap.size, 0, none⟩ = some (.int .i64 k1) ∧ w'.cell? ⟨w1.heap.size, 1, none⟩ = some (.string nm1) ∧ w'.cell? ⟨w1.heap.size, 2, none⟩ = some (.slice A1 n1 cap1) ∧ w'.cell? ⟨w2.heap.size, 0, none⟩ = some (.int .i64 k2) ∧ w'.cell? ⟨w2.heap.size, 1, none⟩ = some (.string nm2) ∧ w'.cell? ⟨w2.heap.size, 2, none⟩ = some (.slice A2 n2 cap2) ∧ w'.cell? ⟨w.heap.size, 1, none⟩ = some (.string S) ∧ w'.cell? ⟨w.heap.size, 2, none⟩ = some (.string T) := fun w' h => ⟨cell_later h p0, cell_later h p1, cell_later h p2, cell_later h b0, cell_later h b1, cell_later h b2, cell_later h o1, cell_later h o2⟩
      have hla := Lv.addP_len lb []
      simp at hla
      have HPb : Hid (∀ W, Below W3.heap.size W3 W → Calls Try.prog 6 #[.agg #[.int .i64 k2, .string nm2, .slice A2 n2 cap2], .slice none 0 0] W fun e w' => ∃ v', e = .returned v' ∧ Hid (w'.ownsRow W3.heap.size 9 1 v' (lb.addP []).length ((lb.addP []).map .string)) ∧ Hid (Below W3.heap.size W3 w') ∧ w'.cell? ⟨w1.heap.size, 0, none⟩ = some (.int .i64 k1) ∧ w'.cell? ⟨w1.heap.size, 1, none⟩ = some (.string nm1) ∧ w'.cell? ⟨w1.heap.size, 2, none⟩ = some (.slice A1 n1 cap1) ∧ w'.cell? ⟨w2.heap.size, 0, none⟩ = some (.int .i64 k2) ∧ w'.cell? ⟨w2.heap.size, 1, none⟩ = some (.string nm2) ∧ w'.cell? ⟨w2.heap.size, 2, none⟩ = some (.slice A2 n2 cap2) ∧ w'.cell? ⟨w.heap.size, 1, none⟩ = some (.string S) ∧ w'.cell? ⟨w.heap.size, 2, none⟩ = some (.string T)) := fun W hW => by
        refine (rparams_calls lb.nodes lb _ (.slice none 0 0) [] W3.heap.size W3.heap.size W (Nat.le_refl _) (Nat.le_refl _) hW.size (ib.below hW) (World.ownsRow_nil _ _ _ _) (by simp; omega)).mono ?_
        rintro e w' ⟨v', rfl, ho, hg⟩
        have hb := hW.trans (hg.below hW.size (fun k hk => by simp [Value.ownBlock] at hk))
        exact ⟨v', rfl, ho, hb, hcells w' hb⟩
      have HPa : Hid (∀ W v1, Hid (W.ownsRow W3.heap.size 9 1 v1 (lb.addP []).length ((lb.addP []).map .string)) → Below W3.heap.size W3 W → Calls Try.prog 6 #[.agg #[.int .i64 k1, .string nm1, .slice A1 n1 cap1], v1] W fun e w' => ∃ A9 cap9, e = .returned (.slice A9 (la.addP (lb.addP [])).length cap9) ∧ Hid (Below W3.heap.size W3 w') ∧ w'.cell? ⟨w1.heap.size, 0, none⟩ = some (.int .i64 k1) ∧ w'.cell? ⟨w1.heap.size, 1, none⟩ = some (.string nm1) ∧ w'.cell? ⟨w1.heap.size, 2, none⟩ = some (.slice A1 n1 cap1) ∧ w'.cell? ⟨w2.heap.size, 0, none⟩ = some (.int .i64 k2) ∧ w'.cell? ⟨w2.heap.size, 1, none⟩ = some (.string nm2) ∧ w'.cell? ⟨w2.heap.size, 2, none⟩ = some (.slice A2 n2 cap2) ∧ w'.cell? ⟨w.heap.size, 1, none⟩ = some (.string S) ∧ w'.cell? ⟨w.heap.size, 2, none⟩ = some (.string T)) := fun W v1 hO hW => by
        refine (rparams_calls la.nodes la _ v1 _ W3.heap.size W3.heap.size W (Nat.le_refl _) (Nat.le_refl _) hW.size (ia.below hW) hO.out (by omega)).mono ?_
        rintro e w' ⟨v', rfl, ho, hg⟩
        have hb := hW.trans (hg.below hW.size (fun k hk => (hO.out.lt k hk).1))
        obtain ⟨A9, cap9, rfl⟩ := shape_of_owns' ho
        exact ⟨A9, cap9, rfl, hb, hcells w' hb⟩
      have HMA := hide ma
      have HMB := hide mb
      have HIa := hide ia
      have HIb := hide ib
      have HC1 := hide hc1
      have HC2 := hide hc2
      have HC := hide hcells
      clear hcells ma mb ia ib hc1 hc2 HL1 HL2
      by_cases h6 : 6 < (la.addP (lb.addP [])).length
      · have e6 : decide ((6 : Int) < ((la.addP (lb.addP [])).length : Int)) = true := by simp; omega
        have HB := hide (Below.refl W3.heap.size W3).drew
        clear HMA HMB HIa HIb HC
        generalize (la.addP (lb.addP [])).length = L at *
        first | (go_region_with (first
            | (go_at_call_of 6 (Value.slice none 0 0); refine (HPb.out _ ?_).mono ?_; exact HB.out; rintro e w4 ⟨v1, rfl, HO, HB, r0, r1, r2, r3, r4, r5, r6, r7⟩)
            | (go_at_call 6; refine (HPa.out _ _ HO ?_).mono ?_; exact HB.out; rintro e w5 ⟨A9, cap9, rfl, HB5, s0, s1, s2, s3, s4, s5, s6, s7⟩))) | fail
        all_goals
          go_wp2_with fail
          go_ret
          exact ⟨rfl, HW.out.trans (HB5.out.mono HW.out.size)⟩
      · have e6 : decide ((6 : Int) < ((la.addP (lb.addP [])).length : Int)) = false := by simp; omega
        have HL : Hid ((la.addP (lb.addP [])).length ≤ 6) := by simp only [Hid]; omega
        have HB := hide (Below.refl W3.heap.size W3).drew
        by_cases hS3 : 300 < S.size
        · have eS : decide ((300 : Int) < (S.size : Int)) = true := by simp; omega
          clear HMA HMB HIa HIb HL h6 HC
          generalize (la.addP (lb.addP [])).length = L at *
          first | (go_region_with (first
            | (go_at_call_of 6 (Value.slice none 0 0); refine (HPb.out _ ?_).mono ?_; exact HB.out; rintro e w4 ⟨v1, rfl, HO, HB, r0, r1, r2, r3, r4, r5, r6, r7⟩)
            | (go_at_call 6; refine (HPa.out _ _ HO ?_).mono ?_; exact HB.out; rintro e w5 ⟨A9, cap9, rfl, HB5, s0, s1, s2, s3, s4, s5, s6, s7⟩))) | fail
          all_goals
            go_wp2_with fail
            go_ret
            exact ⟨rfl, HW.out.trans (HB5.out.mono HW.out.size)⟩
        · have eS : decide ((300 : Int) < (S.size : Int)) = false := by simp; omega
          by_cases hT3 : 300 < T.size
          · have eT : decide ((300 : Int) < (T.size : Int)) = true := by simp; omega
            clear HMA HMB HIa HIb HL h6 HC
            generalize (la.addP (lb.addP [])).length = L at *
            first | (go_region_with (first
              | (go_at_call_of 6 (Value.slice none 0 0); refine (HPb.out _ ?_).mono ?_; exact HB.out; rintro e w4 ⟨v1, rfl, HO, HB, r0, r1, r2, r3, r4, r5, r6, r7⟩)
              | (go_at_call 6; refine (HPa.out _ _ HO ?_).mono ?_; exact HB.out; rintro e w5 ⟨A9, cap9, rfl, HB5, s0, s1, s2, s3, s4, s5, s6, s7⟩))) | fail
            all_goals
              go_wp2_with fail
              go_ret
              exact ⟨rfl, HW.out.trans (HB5.out.mono HW.out.size)⟩
          · have eT : decide ((300 : Int) < (T.size : Int)) = false := by simp; omega
            have K7 : Hid (∀ W, Below W3.heap.size W3 W → Calls Try.prog 7 #[.agg #[.int .i64 k1, .string nm1, .slice A1 n1 cap1], .agg #[.int .i64 k2, .string nm2, .slice A2 n2 cap2]] W fun e w' => e = .returned (.bool (leB la lb)) ∧ Hid (Below W3.heap.size W3 w') ∧ w'.cell? ⟨w1.heap.size, 0, none⟩ = some (.int .i64 k1) ∧ w'.cell? ⟨w1.heap.size, 1, none⟩ = some (.string nm1) ∧ w'.cell? ⟨w1.heap.size, 2, none⟩ = some (.slice A1 n1 cap1) ∧ w'.cell? ⟨w2.heap.size, 0, none⟩ = some (.int .i64 k2) ∧ w'.cell? ⟨w2.heap.size, 1, none⟩ = some (.string nm2) ∧ w'.cell? ⟨w2.heap.size, 2, none⟩ = some (.slice A2 n2 cap2)) := fun W hW => (leq_calls la lb _ _ W3.heap.size W hW.size (HIa.out.below hW) (HIb.out.below hW) (by omega) (by omega) HMA.out HMB.out HL.out).mono fun e w' ⟨he, hb⟩ => ⟨he, hW.trans (hb.mono hW.size), have h := HC.out w' (hW.trans (hb.mono hW.size)); ⟨h.1, h.2.1, h.2.2.1, h.2.2.2.1, h.2.2.2.2.1, h.2.2.2.2.2.1⟩⟩
            have K8 : Hid (∀ W, Below W3.heap.size W3 W → Calls Try.prog 8 #[.agg #[.int .i64 k1, .string nm1, .slice A1 n1 cap1], .agg #[.int .i64 k2, .string nm2, .slice A2 n2 cap2]] W fun e w' => e = .returned (.bool (sameB la lb)) ∧ Hid (Below W3.heap.size W3 w') ∧ w'.cell? ⟨w1.heap.size, 0, none⟩ = some (.int .i64 k1) ∧ w'.cell? ⟨w1.heap.size, 1, none⟩ = some (.string nm1) ∧ w'.cell? ⟨w1.heap.size, 2, none⟩ = some (.slice A1 n1 cap1) ∧ w'.cell? ⟨w2.heap.size, 0, none⟩ = some (.int .i64 k2) ∧ w'.cell? ⟨w2.heap.size, 1, none⟩ = some (.string nm2) ∧ w'.cell? ⟨w2.heap.size, 2, none⟩ = some (.slice A2 n2 cap2)) := fun W hW => (same_calls la lb _ _ W3.heap.size W hW.size (HIa.out.below hW) (HIb.out.below hW) (by omega) (by omega) HMA.out HMB.out HL.out).mono fun e w' ⟨he, hb⟩ => ⟨he, hW.trans (hb.mono hW.size), have h := HC.out w' (hW.trans (hb.mono hW.size)); ⟨h.1, h.2.1, h.2.2.1, h.2.2.2.1, h.2.2.2.2.1, h.2.2.2.2.2.1⟩⟩
            have K9 : Hid (∀ W, Below W3.heap.size W3 W → Calls Try.prog 9 #[.agg #[.int .i64 k1, .string nm1, .slice A1 n1 cap1], .agg #[.int .i64 k2, .string nm2, .slice A2 n2 cap2]] W fun e w' => e = .returned (.bool (leB la lb)) ∧ Hid (Below W3.heap.size W3 w') ∧ w'.cell? ⟨w1.heap.size, 0, none⟩ = some (.int .i64 k1) ∧ w'.cell? ⟨w1.heap.size, 1, none⟩ = some (.string nm1) ∧ w'.cell? ⟨w1.heap.size, 2, none⟩ = some (.slice A1 n1 cap1) ∧ w'.cell? ⟨w2.heap.size, 0, none⟩ = some (.int .i64 k2) ∧ w'.cell? ⟨w2.heap.size, 1, none⟩ = some (.string nm2) ∧ w'.cell? ⟨w2.heap.size, 2, none⟩ = some (.slice A2 n2 cap2)) := fun W hW => (rleq_calls la lb _ _ W3.heap.size W hW.size (HIa.out.below hW) (HIb.out.below hW) (by omega) (by omega) (by have := addP_comm_len la lb; have := HL.out; omega)).mono fun e w' ⟨he, hb⟩ => ⟨he, hW.trans (hb.mono hW.size), have h := HC.out w' (hW.trans (hb.mono hW.size)); ⟨h.1, h.2.1, h.2.2.1, h.2.2.2.1, h.2.2.2.2.1, h.2.2.2.2.2.1⟩⟩
            have K10 : Hid (∀ W, Below W3.heap.size W3 W → Calls Try.prog 10 #[.agg #[.int .i64 k1, .string nm1, .slice A1 n1 cap1], .agg #[.int .i64 k2, .string nm2, .slice A2 n2 cap2]] W fun e w' => e = .returned (.bool (sameB la lb)) ∧ Hid (Below W3.heap.size W3 w') ∧ w'.cell? ⟨w1.heap.size, 0, none⟩ = some (.int .i64 k1) ∧ w'.cell? ⟨w1.heap.size, 1, none⟩ = some (.string nm1) ∧ w'.cell? ⟨w1.heap.size, 2, none⟩ = some (.slice A1 n1 cap1) ∧ w'.cell? ⟨w2.heap.size, 0, none⟩ = some (.int .i64 k2) ∧ w'.cell? ⟨w2.heap.size, 1, none⟩ = some (.string nm2) ∧ w'.cell? ⟨w2.heap.size, 2, none⟩ = some (.slice A2 n2 cap2)) := fun W hW => (rsame_calls la lb _ _ W3.heap.size W hW.size (HIa.out.below hW) (HIb.out.below hW) (by omega) (by omega) HL.out).mono fun e w' ⟨he, hb⟩ => ⟨he, hW.trans (hb.mono hW.size), have h := HC.out w' (hW.trans (hb.mono hW.size)); ⟨h.1, h.2.1, h.2.2.1, h.2.2.2.1, h.2.2.2.2.1, h.2.2.2.2.2.1⟩⟩
            clear HMA HMB HIa HIb HL h6 HC
            generalize (la.addP (lb.addP [])).length = L at *
            generalize leB la lb = X at *
            generalize sameB la lb = Y at *
            first | (go_region_with (first
              | (go_at_call_of 6 (Value.slice none 0 0); refine (HPb.out _ ?_).mono ?_; exact HB.out; rintro e w4 ⟨v1, rfl, HO, HB, r0, r1, r2, r3, r4, r5, r6, r7⟩)
              | (go_at_call 6; refine (HPa.out _ _ HO ?_).mono ?_; exact HB.out; rintro e w5 ⟨A9, cap9, rfl, HB5, s0, s1, s2, s3, s4, s5, s6, s7⟩))) | fail
            all_goals
              clear HPb HPa HO r0 r1 r2 r3 r4 r5 r6 r7 HB s6 s7 e1 e2 e6 eS eT o1 o2
              go_wp2_with (go_at_call 7; refine (K7.out _ ?_).mono ?_; exact HB5.out; rintro e w6 ⟨rfl, HB6, s0, s1, s2, s3, s4, s5⟩)
              go_wp2_with (go_at_call 8; refine (K8.out _ ?_).mono ?_; exact HB6.out; rintro e w7 ⟨rfl, HB7, s0, s1, s2, s3, s4, s5⟩)
              refine (K9.out _ HB7.out).mono ?_
              rintro e w8 ⟨rfl, HB8, s0, s1, s2, s3, s4, s5⟩
              go_wp2_with (go_at_call 10; refine (K10.out _ ?_).mono ?_; exact HB8.out; rintro e w9 ⟨rfl, HB9, s0, s1, s2, s3, s4, s5⟩)
              go_ret
              exact ⟨by simp, HW.out.trans (HB9.out.mono HW.out.size)⟩
    · have e2 : ((c2 : Int) != 0) = true := by simp; omega
      have H1 := hide hc1
      clear hc1 hc2
      go_quiet (fail)
      go_wp2_with fail
      go_ret
      exact ⟨rfl, below_drewN HW.out _⟩
  · have e1 : ((c1 : Int) != 0) = true := by simp; omega
    clear hc1
    go_quiet (fail)
    go_wp2_with fail
    go_ret
    exact ⟨rfl, below_drewN HW.out _⟩

end Go.Proofs.Ytdmlflgeihgfcaa
