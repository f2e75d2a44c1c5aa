/- The walk through LevelWorthy: the closed facts hold, and no step of a script says otherwise. -/
import Derived.Test.YtfdfeoojapcnmaaDoorStep
import Derived.Deep.DeepCutAuto
import Derived.Deep.RegionHeld3
namespace Go.Proofs.YtfdfeoojapcnmaaDoor
open Go.RowKit

/-- A number that an int holds. -/
abbrev Fits (x : Int) : Prop := -9223372036854775808 ≤ x ∧ x ≤ 9223372036854775807

/-- A script as it came in: each step's six cells. -/
def IsOps (w : World) (a : Option Addr) (len : Nat) : Prop := len ≤ maxLen ∧ ∀ i, i < len → ∃ (b off : Nat) (kd x y : Int) (S T U : ByteArray), a = some ⟨b, off, none⟩ ∧ S.size ≤ maxLen ∧ T.size ≤ maxLen ∧ Fits x ∧ Fits y ∧
  w.cell? ⟨b, off + i * 6, none⟩ = some (.int .i64 kd) ∧ w.cell? ⟨b, off + i * 6 + 1, none⟩ = some (.string S) ∧ w.cell? ⟨b, off + i * 6 + 2, none⟩ = some (.string T) ∧ w.cell? ⟨b, off + i * 6 + 3, none⟩ = some (.string U) ∧
  w.cell? ⟨b, off + i * 6 + 4, none⟩ = some (.int .i64 x) ∧ w.cell? ⟨b, off + i * 6 + 5, none⟩ = some (.int .i64 y)

theorem hid_true {P : Prop} : Hid (true = false → P) := fun h => by cases h
theorem hid_comp {A B C : Prop} (f : Hid (B → C)) (g : Hid (A → B)) : Hid (A → C) := fun h => f (g h)
theorem ints_out {W3 w6 W : World} {nv : Value} {ib m n o : Nat} (hbn : Below w6.heap.size w6 W) (HN : Hid (InStrs w6 w6.heap.size nv uvw)) (HB6 : Hid (Below W3.heap.size W3 w6)) (i0 : W.cell? ⟨ib, 0, none⟩ = some (.int .i64 (m : Nat))) (i1 : W.cell? ⟨ib, 1, none⟩ = some (.int .i64 (n : Nat))) (i2 : W.cell? ⟨ib, 2, none⟩ = some (.int .i64 (o : Nat))) :
    ∃ ib' : Nat, Value.slice (some ⟨ib, 0, none⟩) 3 3 = .slice (some ⟨ib', 0, none⟩) 3 3 ∧ Hid (InInts W W.heap.size (.slice (some ⟨ib', 0, none⟩) 3 3) [m, n, o]) ∧ Hid (InStrs W W.heap.size nv uvw) ∧ Hid (Below W3.heap.size W3 W) :=
  ⟨ib, rfl, ints3 i0 i1 i2, (HN.out.below hbn).mono hbn.size, HB6.out.trans (hbn.mono HB6.out.size)⟩

theorem fits_sum (x y : Int) : Fits (IntKind.i64.wrap (x + y)) := by rw [IntKind.wrap_i64]; unfold Fits; omega

set_option maxHeartbeats 8000000 in
set_option maxRecDepth 100000 in
theorem worthy_walk (a : Option Addr) (len cap : Nat) (w0 : World) (h : IsOps w0 a len) (ht : Tabs w0) :
    Calls Tryd.prog 3 #[.slice a len cap] w0 fun e w' => e = .returned (.bool true) ∧ Below w0.heap.size w0 w' := by
  obtain ⟨hm, hc⟩ := h
  have h00 : 1 < w0.heap.size := ht.lt
  have HF := hide (facts_calls w0 ht.t)
  have HTb := hide ht
  clear ht
  unfold maxLen at hm
  have HC0 := hide hc
  clear hc
  go_enter Tryd.func3, Tryd.ntmps3
  go_wp2_with (go_at_call 4; refine HF.out.mono ?_; rintro e wf ⟨rfl, hbf⟩)
  have HBF := hide hbf
  clear hbf HF
  go_loopg [4] (len) (fun g i wr => ∃ k : Nat, k + g = len ∧ i = .int .i64 k ∧ Below w0.heap.size w0 wr)
  case atStart => exact ⟨0, by omega, rfl, HBF.out⟩
  case round =>
    obtain ⟨k, hkg, rfl, hbel⟩ := hrel
    rename World => w
    have HB := hide hbel
    clear hbel
    by_cases hlt : k < len
    · by_cases hmax : (k : Int) < 1152921504606846976
      · obtain ⟨b, off, kd, x, y, S, T, U, rfl, hS, hT, hx, hy, c0, c1, c2, c3, c4, c5⟩ := HC0.out k hlt
        have d0 := cell_later HB.out c0
        have d1 := cell_later HB.out c1
        have d2 := cell_later HB.out c2
        have d3 := cell_later HB.out c3
        have d4 := cell_later HB.out c4
        have d5 := cell_later HB.out c5
        have HS := hide (fun W => parse_calls S W hS)
        have HT := hide (fun W => parse_calls T W hT)
        have HX := hide hx
        have HY := hide hy
        have HZ := hide (fits_sum x y)
        have hzw := HB.out.size
        clear c0 c1 c2 c3 c4 c5 hx hy
        unfold maxLen at hS hT
        go_wp2_with (go_at_call 5; refine (HS.out _).mono ?_)
        rintro e w1 ⟨k1, nm1, A1, n1, cap1, c1, a1, rfl, hb1, hp1⟩
        have hz1 := hb1.size
        simp at hz1
        have HB1 : Hid (Below (w.heap.size + 1) (w.alloc (.cells #[.int .i64 kd, .string S, .string T, .string U, .int .i64 x, .int .i64 y] 25)) w1) := by simpa [Hid] using hb1
        have o2 : w1.cell? ⟨w.heap.size, 2, none⟩ = some (.string T) := by rw [HB1.out.cell (by simp)]; simp
        have l0 : w.heap.size < w1.heap.size := by omega
        have HP1 := hide hp1
        clear hb1 hp1 d0 d1 d2 d3 d4 d5
        go_wp2_with (go_at_call 5; refine (HT.out _).mono ?_)
        rintro e w2 ⟨k2, nm2, A2, n2, cap2, c2, a2, rfl, hb2, hp2⟩
        have hz2 := hb2.size
        simp at hz2
        have HB2 : Hid (Below (w1.heap.size + 2) ((w1.alloc (.cells #[.int .i64 k1, .string nm1, .slice A1 n1 cap1] 28)).alloc (.cells #[.int .i64 (c1 : Nat), .int .i64 (a1 : Nat)] 30)) w2) := by simpa [Hid] using hb2
        have HP2 := hide hp2
        clear hb2 hp2 o2
        go_upto_region 8 with fail
        have hold2 : Below w2.heap.size w2 ((w2.alloc (.cells #[.int .i64 k2, .string nm2, .slice A2 n2 cap2] 28)).alloc (.cells #[.int .i64 (c2 : Nat), .int .i64 (a2 : Nat)] 30)) := ((Below.refl _ _).alloc (Nat.le_refl _) _).alloc (by simp) _
        have b0 : ((w2.alloc (.cells #[.int .i64 k2, .string nm2, .slice A2 n2 cap2] 28)).alloc (.cells #[.int .i64 (c2 : Nat), .int .i64 (a2 : Nat)] 30)).cell? ⟨w2.heap.size, 0, none⟩ = some (.int .i64 k2) := by simp
        have b1 : ((w2.alloc (.cells #[.int .i64 k2, .string nm2, .slice A2 n2 cap2] 28)).alloc (.cells #[.int .i64 (c2 : Nat), .int .i64 (a2 : Nat)] 30)).cell? ⟨w2.heap.size, 1, none⟩ = some (.string nm2) := by simp
        have b2 : ((w2.alloc (.cells #[.int .i64 k2, .string nm2, .slice A2 n2 cap2] 28)).alloc (.cells #[.int .i64 (c2 : Nat), .int .i64 (a2 : Nat)] 30)).cell? ⟨w2.heap.size, 2, none⟩ = some (.slice A2 n2 cap2) := by simp
        have g0 : ((w2.alloc (.cells #[.int .i64 k2, .string nm2, .slice A2 n2 cap2] 28)).alloc (.cells #[.int .i64 (c2 : Nat), .int .i64 (a2 : Nat)] 30)).cell? ⟨w2.heap.size + 1, 0, none⟩ = some (.int .i64 (c2 : Nat)) := by simp [World.cell?_alloc_at]
        have hz3 : ((w2.alloc (.cells #[.int .i64 k2, .string nm2, .slice A2 n2 cap2] 28)).alloc (.cells #[.int .i64 (c2 : Nat), .int .i64 (a2 : Nat)] 30)).heap.size = w2.heap.size + 2 := by simp
        generalize (w2.alloc (.cells #[.int .i64 k2, .string nm2, .slice A2 n2 cap2] 28)).alloc (.cells #[.int .i64 (c2 : Nat), .int .i64 (a2 : Nat)] 30) = W3 at *
        have hold1 : Below (w1.heap.size + 2) ((w1.alloc (.cells #[.int .i64 k1, .string nm1, .slice A1 n1 cap1] 28)).alloc (.cells #[.int .i64 (c1 : Nat), .int .i64 (a1 : Nat)] 30)) W3 := HB2.out.trans (hold2.mono (by omega))
        have p0 : W3.cell? ⟨w1.heap.size, 0, none⟩ = some (.int .i64 k1) := by rw [hold1.cell (by simp)]; simp
        have p1 : W3.cell? ⟨w1.heap.size, 1, none⟩ = some (.string nm1) := by rw [hold1.cell (by simp)]; simp
        have p2 : W3.cell? ⟨w1.heap.size, 2, none⟩ = some (.slice A1 n1 cap1) := by rw [hold1.cell (by simp)]; simp
        have f0 : W3.cell? ⟨w1.heap.size + 1, 0, none⟩ = some (.int .i64 (c1 : Nat)) := by rw [hold1.cell (by simp)]; simp [World.cell?_alloc_at]
        have hold1' : Below w1.heap.size w1 W3 := (((Below.refl _ _).alloc (Nat.le_refl _) _).alloc (by simp) _).trans (hold1.mono (by omega))
        have hold0 : Below (w.heap.size + 1) (w.alloc (.cells #[.int .i64 kd, .string S, .string T, .string U, .int .i64 x, .int .i64 y] 25)) W3 := HB1.out.trans (hold1'.mono (by omega))
        have o1 : W3.cell? ⟨w.heap.size, 1, none⟩ = some (.string S) := by rw [hold0.cell (by simp)]; simp
        have o2 : W3.cell? ⟨w.heap.size, 2, none⟩ = some (.string T) := by rw [hold0.cell (by simp)]; simp
        have o4 : W3.cell? ⟨w.heap.size, 4, none⟩ = some (.int .i64 x) := by rw [hold0.cell (by simp)]; simp
        have o5 : W3.cell? ⟨w.heap.size, 5, none⟩ = some (.int .i64 y) := by rw [hold0.cell (by simp)]; simp
        have HW : Hid (Below w0.heap.size w0 W3) := HB.out.trans ((((Below.refl _ _).alloc (Nat.le_refl _) _).trans (hold0.mono (by omega))).mono hzw)
        have HL1 : Hid (c1 = 0 → S.size ≤ 20000 ∧ ∃ l : LvB, InLv W3 W3.heap.size l (.agg #[.int .i64 k1, .string nm1, .slice A1 n1 cap1]) ∧ l.nodes ≤ S.size ∧ ∀ q, Lv.has q l → Nm q) := fun h => by
          obtain ⟨hz, l, h1, h2, h3⟩ := HP1.out h
          exact ⟨hz, l, (h1.below hold1').mono (by omega), h2, h3⟩
        have HL2 : Hid (c2 = 0 → T.size ≤ 20000 ∧ ∃ l : LvB, InLv W3 W3.heap.size l (.agg #[.int .i64 k2, .string nm2, .slice A2 n2 cap2]) ∧ l.nodes ≤ T.size ∧ ∀ q, Lv.has q l → Nm q) := fun h => by
          obtain ⟨hz, l, h1, h2, h3⟩ := HP2.out h
          exact ⟨hz, l, (h1.below hold2).mono (by omega), h2, h3⟩
        have hC : ∀ W, Below W3.heap.size W3 W → Cells w.heap.size w1.heap.size w2.heap.size x y k1 k2 nm1 nm2 A1 A2 n1 cap1 n2 cap2 W := fun W hW => Cells.later ⟨⟨o4, o5⟩, ⟨p0, p1, p2⟩, ⟨b0, b1, b2⟩, by omega, by omega, by omega⟩ hW
        have HC := hide hC
        clear hC hold0 hold1 hold1' hold2 HB1 HB2 HP1 HP2 HS HT HB HBF
        go_cut [78] (fun v wx => ∃ bv : Bool, v = .bool bv ∧ Hid (bv = false → ∃ la lb : LvB, InLv W3 W3.heap.size la (.agg #[.int .i64 k1, .string nm1, .slice A1 n1 cap1]) ∧ InLv W3 W3.heap.size lb (.agg #[.int .i64 k2, .string nm2, .slice A2 n2 cap2]) ∧ la.nodes ≤ 300 ∧ lb.nodes ≤ 300 ∧ (∀ q, Lv.has q la → Nm q) ∧ (∀ q, Lv.has q lb → Nm q) ∧ (la.addP (lb.addP [])).length ≤ 6) ∧ At W3 (Cells w.heap.size w1.heap.size w2.heap.size x y k1 k2 nm1 nm2 A1 A2 n1 cap1 n2 cap2) wx)
        case first =>
          by_cases hc1 : c1 = 0
          · have e1 : ((c1 : Int) != 0) = false := by simp [hc1]
            by_cases hc2 : c2 = 0
            · have e2 : ((c2 : Int) != 0) = false := by simp [hc2]
              by_cases hS3 : 300 < S.size
              · have eS : decide ((300 : Int) < (S.size : Int)) = true := by simp; omega
                have H1 := hide hc1
                have H2 := hide hc2
                clear hc1 hc2 HL1 HL2
                go_quiet (fail)
                go_wp2_with fail
                go_meet
                case rel => exact ⟨true, rfl, hid_true, At.of HC.out (below_drewN (Below.refl _ _) _)⟩
              · have eS : decide ((300 : Int) < (S.size : Int)) = false := by simp; omega
                by_cases hT3 : 300 < T.size
                · have eT : decide ((300 : Int) < (T.size : Int)) = true := by simp; omega
                  have H1 := hide hc1
                  have H2 := hide hc2
                  clear hc1 hc2 HL1 HL2
                  go_quiet (fail)
                  go_wp2_with fail
                  go_meet
                  case rel => exact ⟨true, rfl, hid_true, At.of HC.out (below_drewN (Below.refl _ _) _)⟩
                · have eT : decide ((300 : Int) < (T.size : Int)) = false := by simp; omega
                  obtain ⟨zS, la, ia, na, ma⟩ := HL1.out hc1
                  obtain ⟨zT, lb, ib, nb, mb⟩ := HL2.out hc2
                  have HPb := hide (s_names1 HC.out ib (by omega))
                  have HPa := hide (s_names2 (lb := lb) HC.out ia (by omega) (by omega))
                  have HE : Hid ((la.addP (lb.addP [])).length ≤ 6 → ∃ la lb : LvB, InLv W3 W3.heap.size la (.agg #[.int .i64 k1, .string nm1, .slice A1 n1 cap1]) ∧ InLv W3 W3.heap.size lb (.agg #[.int .i64 k2, .string nm2, .slice A2 n2 cap2]) ∧ la.nodes ≤ 300 ∧ lb.nodes ≤ 300 ∧ (∀ q, Lv.has q la → Nm q) ∧ (∀ q, Lv.has q lb → Nm q) ∧ (la.addP (lb.addP [])).length ≤ 6) := fun h => ⟨la, lb, ia, ib, by omega, by omega, ma, mb, h⟩
                  obtain ⟨bv, hbv⟩ : ∃ bv : Bool, decide ((6 : Int) < ((la.addP (lb.addP [])).length : Int)) = bv := ⟨_, rfl⟩
                  have HE6 : Hid (bv = false → (la.addP (lb.addP [])).length ≤ 6) := fun h => by rw [h] at hbv; simp at hbv; omega
                  have H1 := hide hc1
                  have H2 := hide hc2
                  have HB := hide (Below.refl W3.heap.size W3).drew
                  clear hc1 hc2 HL1 HL2 ia ib ma mb
                  generalize (la.addP (lb.addP [])).length = L at *
                  first | (go_region_with (first
                      | (go_at_call_of 6 (Value.slice none 0 0); refine (HPb.out _ ?_).mono ?_; exact HB.out; rintro e w4 ⟨v1, rfl, HO, HB, -, ⟨r0, r1, r2⟩, ⟨r3, r4, r5⟩, -⟩)
                      | (go_at_call 6; refine (HPa.out _ _ HO ?_).mono ?_; exact HB.out; rintro e w5 ⟨A9, cap9, rfl, HB5, HC5⟩))) | fail
                  all_goals
                    go_wp2_with fail
                    go_meet
                    case rel => exact ⟨bv, rfl, hid_comp HE HE6, At.of HC.out HB5.out⟩
            · have e2 : ((c2 : Int) != 0) = true := by simp; omega
              have H1 := hide hc1
              clear hc1 hc2 HL1 HL2
              go_quiet (fail)
              go_wp2_with fail
              go_meet
              case rel => exact ⟨true, rfl, hid_true, At.of HC.out (below_drewN (Below.refl _ _) _)⟩
          · have e1 : ((c1 : Int) != 0) = true := by simp; omega
            clear hc1 HL1 HL2
            go_quiet (fail)
            go_wp2_with fail
            go_meet
            case rel => exact ⟨true, rfl, hid_true, At.of HC.out (below_drewN (Below.refl _ _) _)⟩
        case rest =>
          clear o1 o2 o4 o5 p0 p1 p2 b0 b1 b2 f0 g0 HL1 HL2
          obtain ⟨bv, rfl, HE, HB5, ⟨o4, o5⟩, ⟨p0, p1, p2⟩, ⟨b0, b1, b2⟩, l0, l1, l2⟩ := hcut
          rename World => w5
          cases bv with
          | true =>
            go_wp2_with fail
            go_roundg (len - (k + 1))
            case measure => omega
            case rel => exact ⟨k + 1, by omega, by go_num, HW.out.trans (HB5.out.mono HW.out.size)⟩
          | false =>
            obtain ⟨la, lb, ia, ib, na, nb, ma, mb, hl⟩ := HE.out rfl
            have HIa := hide ia
            have HIb := hide ib
            have HMA := hide ma
            have HMB := hide mb
            have HL := hide hl
            clear ia ib ma mb hl HE
            go_upto_region 10 with fail
            have s0 : (w5.alloc (.cells #[.string ⟨#[117]⟩, .string ⟨#[118]⟩, .string ⟨#[119]⟩] 9)).cell? ⟨w5.heap.size, 0, none⟩ = some (.string ⟨#[117]⟩) := by simp
            have s1 : (w5.alloc (.cells #[.string ⟨#[117]⟩, .string ⟨#[118]⟩, .string ⟨#[119]⟩] 9)).cell? ⟨w5.heap.size, 1, none⟩ = some (.string ⟨#[118]⟩) := by simp
            have s2 : (w5.alloc (.cells #[.string ⟨#[117]⟩, .string ⟨#[118]⟩, .string ⟨#[119]⟩] 9)).cell? ⟨w5.heap.size, 2, none⟩ = some (.string ⟨#[119]⟩) := by simp
            have HB6 : Hid (Below W3.heap.size W3 (w5.alloc (.cells #[.string ⟨#[117]⟩, .string ⟨#[118]⟩, .string ⟨#[119]⟩] 9))) := HB5.out.alloc HB5.out.size _
            clear o4 o5 p0 p1 p2 b0 b1 b2 l0 l1 l2
            generalize w5.alloc (.cells #[.string ⟨#[117]⟩, .string ⟨#[118]⟩, .string ⟨#[119]⟩] 9) = w6 at *
            obtain ⟨⟨o4, o5⟩, ⟨p0, p1, p2⟩, ⟨b0, b1, b2⟩, l0, l1, l2⟩ := HC.out _ HB6.out
            have HN6 : Hid (InStrs w6 w6.heap.size (.slice (some ⟨w5.heap.size, 0, none⟩) 3 3) uvw) := strs3 s0 s1 s2
            have K7 : Hid (∀ z W, Fits z → Calls Tryd.prog 7 #[.int .i64 z] W fun e w' => e = .returned (.int .i64 (limN z : Nat)) ∧ w' = W) := fun z W h => limit_calls z W h.1 h.2
            clear s0 s1 s2
            go_cut [11] (fun v wx => ∃ ib : Nat, v = .slice (some ⟨ib, 0, none⟩) 3 3 ∧ Hid (InInts wx wx.heap.size (.slice (some ⟨ib, 0, none⟩) 3 3) [limN x, limN y, limN (IntKind.i64.wrap (x + y))]) ∧ Hid (InStrs wx wx.heap.size (.slice (some ⟨w5.heap.size, 0, none⟩) 3 3) uvw) ∧ Hid (Below W3.heap.size W3 wx))
            case first =>
              clear p0 p1 p2 b0 b1 b2 l1 l2 HIa HIb HMA HMB HL HC HW HTb HC0
              go_region_held3 (fun w' => w'.cell? ⟨w.heap.size, 4, none⟩ = some (.int .i64 x) ∧ w'.cell? ⟨w.heap.size, 5, none⟩ = some (.int .i64 y)) (go_keep)
                (first | (go_at_call 7; refine (K7.out _ _ ?_).mono ?_; (first | exact HX.out | exact HY.out | exact HZ.out); rintro e w' ⟨rfl, rfl⟩))
              all_goals
                go_wp2_with fail
                go_meet
                case rel =>
                  refine ints_out ?_ HN6 HB6 ?_ ?_ ?_
                  · repeat' (first | exact Below.refl _ _ | refine Below.drew ?_ | refine Below.alloc ?_ (by first | exact Nat.le_refl _ | (simp; done)) _)
                  all_goals simp [World.cell?_alloc_at]
            case rest =>
              clear o4 o5 p0 p1 p2 b0 b1 b2 l0 l1 l2
              obtain ⟨ib, rfl, HI7, HN7, HB7⟩ := hcut
              rename World => w7
              obtain ⟨⟨o4, o5⟩, ⟨p0, p1, p2⟩, ⟨b0, b1, b2⟩, l0, l1, l2⟩ := HC.out _ HB7.out
              have hC7 : ∀ W, Below w7.heap.size w7 W → Cells w.heap.size w1.heap.size w2.heap.size x y k1 k2 nm1 nm2 A1 A2 n1 cap1 n2 cap2 W := fun W hW => HC.out W (HB7.out.trans (hW.mono HB7.out.size))
              have ia7 := (HIa.out.below HB7.out).mono HB7.out.size
              have ib7 := (HIb.out.below HB7.out).mono HB7.out.size
              have HW7 := hide (HW.out.trans (HB7.out.mono HW.out.size))
              have tw := HTb.out.below HW7.out h00
              have K8a := hide (s_worth hC7 ia7 na HMA.out _ _ _ _ _ (limN_le x) (limN_le y) (limN_le (IntKind.i64.wrap (x + y))) HN7.out HI7.out)
              have K8b := hide (s_worth hC7 ib7 nb HMB.out _ _ _ _ _ (limN_le x) (limN_le y) (limN_le (IntKind.i64.wrap (x + y))) HN7.out HI7.out)
              have K9a := hide (s_leq hC7 ia7 ib7 na nb HMA.out HMB.out HL.out)
              have K9b := hide (s_leq hC7 ib7 ia7 nb na HMB.out HMA.out (Nat.le_trans (addP_comm_len la lb) HL.out))
              have K10 := hide (s_same hC7 ia7 ib7 na nb HMA.out HMB.out HL.out)
              have K10b := hide (s_again (lb := lb) hC7 na HMA.out HL.out)
              have K11 := hide (s_print hC7 ia7 na HMA.out tw)
              have K12 := hide (s_back hC7 na HMA.out tw)
              have HLE1 : Hid (leB la lb = true → la.worth (look uvw [limN x, limN y, limN (IntKind.i64.wrap (x + y))]) ≤ lb.worth (look uvw [limN x, limN y, limN (IntKind.i64.wrap (x + y))])) := fun h => by
                by_cases hq : Leq la lb
                · exact hq _
                · rw [leB_false hq] at h; cases h
              have HLE2 : Hid (leB lb la = true → lb.worth (look uvw [limN x, limN y, limN (IntKind.i64.wrap (x + y))]) ≤ la.worth (look uvw [limN x, limN y, limN (IntKind.i64.wrap (x + y))])) := fun h => by
                by_cases hq : Leq lb la
                · exact hq _
                · rw [leB_false hq] at h; cases h
              have HIa7 := hide ia7
              have HB8 := hide (Below.refl w7.heap.size w7)
              clear hC7 ia7 ib7 tw HIa HIb HMA HMB HL HC HN6 HN7 HI7 HX HY HZ K7 HB5 HB6 HC0 HTb
              generalize (⟨la.text.toArray⟩ : ByteArray) = tx at *
              generalize la.worth (look uvw [limN x, limN y, limN (IntKind.i64.wrap (x + y))]) = N1 at *
              generalize lb.worth (look uvw [limN x, limN y, limN (IntKind.i64.wrap (x + y))]) = N2 at *
              generalize leB la lb = X at *
              generalize leB lb la = Y at *
              go_wp2_with (go_at_call 8; refine (K8a.out _ ?_).mono ?_; exact HB8.out; clear o4 o5 p0 p1 p2 b0 b1 b2 l0 l1 l2; rintro e w8 ⟨rfl, HB8, ⟨o4, o5⟩, ⟨p0, p1, p2⟩, ⟨b0, b1, b2⟩, l0, l1, l2⟩)
              go_wp2_with (go_at_call 8; refine (K8b.out _ ?_).mono ?_; exact HB8.out; clear o4 o5 p0 p1 p2 b0 b1 b2 l0 l1 l2; rintro e w9 ⟨rfl, HB9, ⟨o4, o5⟩, ⟨p0, p1, p2⟩, ⟨b0, b1, b2⟩, l0, l1, l2⟩)
              go_wp2_with (go_at_call 9; refine (K9a.out _ ?_).mono ?_; exact HB9.out; clear o4 o5 p0 p1 p2 b0 b1 b2 l0 l1 l2; rintro e w10 ⟨rfl, HB10, ⟨o4, o5⟩, ⟨p0, p1, p2⟩, ⟨b0, b1, b2⟩, l0, l1, l2⟩)
              go_wp2_with (go_at_call 9; refine (K9b.out _ ?_).mono ?_; exact HB10.out; clear o4 o5 p0 p1 p2 b0 b1 b2 l0 l1 l2; rintro e w11 ⟨rfl, HB11, ⟨o4, o5⟩, ⟨p0, p1, p2⟩, ⟨b0, b1, b2⟩, l0, l1, l2⟩)
              go_upto_region 16 with (go_at_call 10; refine (K10.out _ ?_).mono ?_; exact HB11.out; clear o4 o5 p0 p1 p2 b0 b1 b2 l0 l1 l2; rintro e w12 ⟨rfl, HB12, ⟨o4, o5⟩, ⟨p0, p1, p2⟩, ⟨b0, b1, b2⟩, l0, l1, l2⟩)
              clear K8a K8b K9a K9b K10 HB8 HB9 HB10 HB11
              go_cut [131] (fun v wx => v = .bool false ∧ wx = w12)
              case first =>
                cases X with
                | true =>
                  have h1 := HLE1.out rfl
                  have eg : decide (N2 < N1) = false := by simp; omega
                  cases Y with
                  | true =>
                    have h2 := HLE2.out rfl
                    have en : (N1 != N2) = false := by simp; omega
                    have en2 : ((N1 : Int) != (N2 : Int)) = false := by simp; omega
                    go_wp2_with fail
                    go_meet
                    case rel =>
                      refine ⟨?_, rfl⟩
                      first | rfl | (simp only [eg]; done) | (simp; omega) | (simp; done)
                  | false =>
                    go_wp2_with fail
                    go_meet
                    case rel =>
                      refine ⟨?_, rfl⟩
                      first | rfl | (simp only [eg]; done) | (simp; omega) | (simp; done)
                | false =>
                  cases Y with
                  | true =>
                    go_wp2_with fail
                    go_meet
                    case rel =>
                      refine ⟨?_, rfl⟩
                      first | rfl | (simp only [eg]; done) | (simp; omega) | (simp; done)
                  | false =>
                    go_wp2_with fail
                    go_meet
                    case rel =>
                      refine ⟨?_, rfl⟩
                      first | rfl | (simp only [eg]; done) | (simp; omega) | (simp; done)
              case rest =>
                obtain ⟨rfl, rfl⟩ := hcut
                go_wp2_with (go_at_call 11; refine (K11.out _ ?_).mono ?_; exact HB12.out; clear o4 o5 p0 p1 p2 b0 b1 b2 l0 l1 l2; rintro e w13 ⟨rfl, HB13, ⟨o4, o5⟩, ⟨p0, p1, p2⟩, ⟨b0, b1, b2⟩, l0, l1, l2⟩)
                go_wp2_with (go_at_call 12; refine (K12.out _ ?_).mono ?_; exact HB13.out; clear o4 o5 p0 p1 p2 b0 b1 b2 l0 l1 l2; rintro e w14 ⟨k3, nm3, A3, n3, cap3, rfl, HI14, HB14, ⟨o4, o5⟩, ⟨p0, p1, p2⟩, ⟨b0, b1, b2⟩, l0, l1, l2⟩)
                have HB14' : Hid (Below w7.heap.size w7 (w14.alloc (.cells #[.int .i64 k3, .string nm3, .slice A3 n3 cap3] 28))) := HB14.out.alloc HB14.out.size _
                have hbn : Below w14.heap.size w14 (w14.alloc (.cells #[.int .i64 k3, .string nm3, .slice A3 n3 cap3] 28)) := (Below.refl _ _).alloc (Nat.le_refl _) _
                have HIu : Hid (InLv (w14.alloc (.cells #[.int .i64 k3, .string nm3, .slice A3 n3 cap3] 28)) (w14.alloc (.cells #[.int .i64 k3, .string nm3, .slice A3 n3 cap3] 28)).heap.size la (.agg #[.int .i64 k1, .string nm1, .slice A1 n1 cap1])) := (HIa7.out.below HB14'.out).mono HB14'.out.size
                have HIv : Hid (InLv (w14.alloc (.cells #[.int .i64 k3, .string nm3, .slice A3 n3 cap3] 28)) (w14.alloc (.cells #[.int .i64 k3, .string nm3, .slice A3 n3 cap3] 28)).heap.size la (.agg #[.int .i64 k3, .string nm3, .slice A3 n3 cap3])) := (HI14.out.below hbn).mono hbn.size
                clear hbn
                go_wp2_with (go_at_call 10; refine (K10b.out _ _ _ HIu HIv HB14'.out).mono ?_; rintro e w15 ⟨rfl, HB15, -⟩)
                go_roundg (len - (k + 1))
                case measure => omega
                case rel => exact ⟨k + 1, by omega, by go_num, HW7.out.trans (HB15.out.mono HW7.out.size)⟩
      · go_wp2_with fail
        go_ret
        exact ⟨rfl, HB.out⟩
    · go_wp2_with fail
      go_ret
      exact ⟨rfl, HB.out⟩

end Go.Proofs.YtfdfeoojapcnmaaDoor
