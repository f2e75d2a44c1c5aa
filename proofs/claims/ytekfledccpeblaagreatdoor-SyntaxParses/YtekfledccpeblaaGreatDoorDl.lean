/- The contract of the document's lex. -/
import Derived.Test.YtekfledccpeblaaGreatDoorDb

namespace Go.Proofs.YtekfledccpeblaaGreatDoor
open Go.RowKit

/-- Two results, the first of which lies in a cell. -/
theorem results_cell_tmp {P : Program} {fn : Func} {p q : Tmp} {ty : TypeId} (h : fn.results = #[.cell p ty, .tmp q]) (tmps : Array Value) (w : World) (g : Nat) (t : TypeId) (cs : Array Value) (fr : Nat × Nat) (d : TypeDesc) (v : Value)
    (hp : tmps.getD p undef = .pointer (some ⟨g, 0, none⟩)) (hq : tmps.getD q undef = v) (hg : w.heap[g]? = some (.cells cs t fr))
    (hu : P.underlying ty = some d) (hd : (match d with | .struct _ | .array _ _ => true | _ => false) = true) (hi : (P.info? ty).map (·.size) = some cs.size) :
    (results fn tmps).run P w = .ok (.tuple #[.agg cs, v]) w := by
  have hp' : tmps[p]?.getD undef = .pointer (some ⟨g, 0, none⟩) := by simpa using hp
  have hq' : tmps[q]?.getD undef = v := by simpa using hq
  simp [results, h, hp', hq', asAddr, run_loadVar_row w g t ty cs fr d hg hu hd hi]
theorem Tryz.size55 : (Tryz.prog.info? 55).map (·.size) = some 3 := by kernel_rfl
theorem lex_ret {w W : World} {fin : LTok × Nat} {tmps : Array Value} {k a m : Nat} {t : ByteArray} (hf : fin = (⟨k, t, a⟩, m)) (hp : tmps.getD 4 undef = .pointer (some ⟨w.heap.size, 0, none⟩)) (hq : tmps.getD 5 undef = .int .i64 (m : Nat)) (hg : W.heap[w.heap.size]? = some (.cells #[.int .i64 (k : Nat), .string t, .int .i64 (a : Nat)] 55 (0, 0))) (hb : Below w.heap.size w W) :
    bodyPost Tryz.prog Tryz.f24 (fun e w' => e = .returned (.tuple #[.agg #[.int .i64 (fin.1.kd : Nat), .string fin.1.t, .int .i64 (fin.1.at_ : Nat)], .int .i64 (fin.2 : Nat)]) ∧ Below w.heap.size w w') Exit.ret { tmps := tmps, defers := [] } W := by
  subst hf
  exact bodyPost_ret (results_cell_tmp rfl _ _ w.heap.size 55 _ (0, 0) _ _ hp hq hg Tryz.underlying55 rfl Tryz.size55) rfl ⟨rfl, hb⟩
theorem lset3 {W : World} {b : Nat} {v0 v1 v2 : Value} (h : W.heap[b]? = some (.cells #[v0, v1, v2] 55 (0, 0))) (x y z : Value) : (((W.setCell ⟨b, 0, none⟩ x).setCell ⟨b, 1, none⟩ y).setCell ⟨b, 2, none⟩ z).heap[b]? = some (.cells #[x, y, z] 55 (0, 0)) := by
  simp [World.setCell, Array.getElem?_modify, h]
theorem below3 {w W : World} {n b : Nat} (h : Below n w W) (hb : n ≤ b) (x y z : Value) : Below n w (((W.setCell ⟨b, 0, none⟩ x).setCell ⟨b, 1, none⟩ y).setCell ⟨b, 2, none⟩ z) := ((h.setCell (p := ⟨b, 0, none⟩) hb x).setCell (p := ⟨b, 1, none⟩) hb y).setCell (p := ⟨b, 2, none⟩) hb z
theorem cells3 {W : World} {b : Nat} {v0 v1 v2 : Value} (h : W.heap[b]? = some (.cells #[v0, v1, v2] 55 (0, 0))) : W.cell? ⟨b, 0, none⟩ = some v0 ∧ W.cell? ⟨b, 1, none⟩ = some v1 ∧ W.cell? ⟨b, 2, none⟩ = some v2 ∧ ∀ i, W.frozen? ⟨b, i, none⟩ = false :=
  ⟨cell_of h 0 rfl, cell_of h 1 rfl, cell_of h 2 rfl, frozen_of h⟩
theorem two_text {s : ByteArray} {k : Nat} (h : k + 1 < s.size) (l : List UInt8) (hl : l.length = 2) : ((s.extract k (k + 2)).toList == l) = (at_ s k == (l[0]).toNat && at_ s (k + 1) == (l[1]).toNat) := by
  match l, hl with
  | [a, b], _ =>
    have hz : (s.extract k (k + 2)).size = 2 := by rw [ByteArray.size_extract]; omega
    have e0 : at_ (s.extract k (k + 2)) 0 = at_ s k := at_extract (s := s) (a := k) (b := k + 2) (i := 0) (by omega) (by omega)
    have e1 : at_ (s.extract k (k + 2)) 1 = at_ s (k + 1) := at_extract (s := s) (a := k) (b := k + 2) (i := 1) (by omega) (by omega)
    rw [sameLit, ← e0, ← e1]
    clear e0 e1
    generalize s.extract k (k + 2) = q at *
    obtain ⟨⟨l⟩⟩ := q
    have hz' : l.length = 2 := hz
    match l, hz' with
    | [x, y], _ =>
      rw [Bool.eq_iff_iff, at_data _ 0 (by show 0 < 2; omega), at_data _ 1 (by show 1 < 2; omega)]
      simp [UInt8.toNat_inj]
/-- A token as a value. -/
abbrev tokV (t : LTok) : Value := .agg #[.int .i64 (t.kd : Nat), .string t.t, .int .i64 (t.at_ : Nat)]

set_option maxRecDepth 100000 in
set_option maxHeartbeats 8000000 in
theorem lex_calls (s : ByteArray) (p : Nat) (w : World) (hp : p ≤ s.size) (hs : s.size ≤ 200000) :
    Calls Tryz.prog 24 #[.string s, .int .i64 (p : Nat)] w fun e w' => e = .returned (.tuple #[tokV (lex s p).1, .int .i64 ((lex s p).2 : Nat)]) ∧ Below w.heap.size w w' := by
  obtain ⟨fin, hfin⟩ : ∃ fin, fin = lex s p := ⟨_, rfl⟩
  rw [← hfin]
  have HF := hide hfin
  clear hfin
  go_enter Tryz.func24, Tryz.ntmps24
  go_wp2_with fail
  go_loopg [1] (s.size - p) (fun g v wr => ∃ k : Nat, k + g = s.size ∧ v = .int .i64 (k : Nat) ∧ Hid (skip s k = skip s p) ∧ wr = w.alloc (.cells #[.int .i64 0, .string ⟨#[]⟩, .int .i64 0] 55))
  case atStart => exact ⟨p, by omega, rfl, rfl, rfl⟩
  case round =>
    obtain ⟨k, hkg, rfl, HR, rfl⟩ := hrel
    by_cases hk : k < s.size
    · have e1 : decide ((k : Int) < (s.size : Int)) = true := by simp; omega
      by_cases hb : blankB (at_ s k) = true
      · have HN : Hid (skip s (k + 1) = skip s p) := (skip_blank hk hb).symm.trans HR.out
        rw [← at_eq hk] at hb
        have d4 : (((s[k]'hk).toNat : Int) == 45) = false := by
          simp [blankB] at hb ⊢
          omega
        have hb3 : (s[k]'hk).toNat = 32 ∨ (s[k]'hk).toNat = 9 ∨ (s[k]'hk).toNat = 10 := by simp [blankB] at hb; omega
        clear hb HR
        rcases hb3 with h3 | h3 | h3
        · have d1 : (((s[k]'hk).toNat : Int) == 32) = true := by simp; omega
          clear h3
          go_wp2_with fail
          go_roundg (s.size - (k + 1))
          case measure => omega
          case rel => exact ⟨k + 1, by omega, by go_num, HN, rfl⟩
        · have d1 : (((s[k]'hk).toNat : Int) == 32) = false := by simp; omega
          have d2 : (((s[k]'hk).toNat : Int) == 9) = true := by simp; omega
          clear h3
          go_wp2_with fail
          go_roundg (s.size - (k + 1))
          case measure => omega
          case rel => exact ⟨k + 1, by omega, by go_num, HN, rfl⟩
        · have d1 : (((s[k]'hk).toNat : Int) == 32) = false := by simp; omega
          have d2 : (((s[k]'hk).toNat : Int) == 9) = false := by simp; omega
          have d3 : (((s[k]'hk).toNat : Int) == 10) = true := by simp; omega
          clear h3
          go_wp2_with fail
          go_roundg (s.size - (k + 1))
          case measure => omega
          case rel => exact ⟨k + 1, by omega, by go_num, HN, rfl⟩
      · have hb' : blankB (at_ s k) = false := by simpa using hb
        have hbn : (s[k]'hk).toNat ≠ 32 ∧ (s[k]'hk).toNat ≠ 9 ∧ (s[k]'hk).toNat ≠ 10 := by
          rw [at_eq hk]
          simp [blankB] at hb'
          omega
        have d1 : (((s[k]'hk).toNat : Int) == 32) = false := by simp; omega
        have d2 : (((s[k]'hk).toNat : Int) == 9) = false := by simp; omega
        have d3 : (((s[k]'hk).toNat : Int) == 10) = false := by simp; omega
        clear hbn hb
        by_cases hd : k + 1 < s.size ∧ at_ s k = 45 ∧ at_ s (k + 1) = 45
        · have HN : Hid (skip s (runTo lineB s k) = skip s p) := (skip_line hd.1 hd.2.1 hd.2.2).symm.trans HR.out
          have h2 := runTo_line hk hd.2.1
          have h3 := runTo_le lineB s (k := k) (by omega)
          obtain ⟨hk1, hd1, hd2⟩ := hd
          have d4 : (((s[k]'hk).toNat : Int) == 45) = true := by rw [at_eq hk, hd1]; rfl
          have d5 : (((s[k + 1]'hk1).toNat : Int) == 45) = true := by rw [at_eq hk1, hd2]; rfl
          have e2 : decide ((k : Int) + 1 < (s.size : Int)) = true := by simp; omega
          clear HR hd1 hd2 hb'
          go_wp2_with fail
          go_loopg [1] (s.size - k) (fun g v wr => ∃ j : Nat, j + g = s.size ∧ v = .int .i64 (j : Nat) ∧ Hid (runTo lineB s j = runTo lineB s k) ∧ wr = w.alloc (.cells #[.int .i64 0, .string ⟨#[]⟩, .int .i64 0] 55))
          case atStart => exact ⟨k, by omega, rfl, rfl, rfl⟩
          case round =>
            clear d1 d2 d3 d4 d5 e1 e2
            obtain ⟨j, hjg, rfl, HL, rfl⟩ := hrel
            by_cases hj : j < s.size
            · have e1 : decide ((j : Int) < (s.size : Int)) = true := by simp; omega
              by_cases hn : at_ s j = 10
              · have d1 : (((s[j]'hj).toNat : Int) != 10) = false := by rw [at_eq hj, hn]; rfl
                have hju : Hid (j = runTo lineB s k) := (runTo_stop (s := s) (k := j) (by simp [lineB, hn])).symm.trans HL.out
                have hlt : k < j := by have := hju.out; omega
                have HN2 : Hid (skip s j = skip s p) := by rw [hju.out]; exact HN.out
                clear hn HL HN hju
                go_wp2_with fail
                go_roundg (s.size - j)
                case measure => omega
                case rel => exact ⟨j, by omega, rfl, HN2.out, rfl⟩
              · have d1 : (((s[j]'hj).toNat : Int) != 10) = true := by rw [at_eq hj]; simp; omega
                have HL2 : Hid (runTo lineB s (j + 1) = runTo lineB s k) := (runTo_step hj (by simp [lineB, hn])).symm.trans HL.out
                clear hn HL HN
                go_wp2_with fail
                go_roundg (s.size - (j + 1))
                case measure => omega
                case rel => exact ⟨j + 1, by omega, by go_num, HL2.out, rfl⟩
            · have e1 : decide ((j : Int) < (s.size : Int)) = false := by simp; omega
              have hju : Hid (j = runTo lineB s k) := (runTo_end (f := lineB) (s := s) (k := j) (by omega)).symm.trans HL.out
              have hlt : k < j := by have := hju.out; omega
              have HN2 : Hid (skip s j = skip s p) := by rw [hju.out]; exact HN.out
              clear HL HN hju
              go_wp2_with fail
              go_roundg (s.size - j)
              case measure => omega
              case rel => exact ⟨j, by omega, rfl, HN2.out, rfl⟩
        · have hsk : k = skip s p := (skip_stop hb' hd).symm.trans HR.out
          have HF1 : Hid (fin = lexAt s k) := hide (by rw [HF.out]; unfold lex; rw [← hsk, if_neg (by omega)])
          clear HF HR hsk hb'
          have e3 : ((k : Int) == (s.size : Int)) = false := by simp; omega
          have hbl : Below w.heap.size w (w.alloc (.cells #[.int .i64 0, .string ⟨#[]⟩, .int .i64 0] 55)) := (Below.refl _ _).alloc (Nat.le_refl _) _
          by_cases ha : alphaB (at_ s k) = true
          · have d4 : (((s[k]'hk).toNat : Int) == 45) = false := by
              rw [at_eq hk]
              simp [alphaB] at ha ⊢
              omega
            have KL := hide (letter_calls (at_ s k) (w.alloc (.cells #[.int .i64 0, .string ⟨#[]⟩, .int .i64 0] 55)))
            have KP := hide (piece_calls s k (w.alloc (.cells #[.int .i64 0, .string ⟨#[]⟩, .int .i64 0] 55)) (by omega) hs)
            rw [ha, ← at_eq hk] at KL
            have h2 := runTo_ge partB s k
            have h3 := runTo_le partB s (k := k) (by omega)
            have HF2 : Hid (fin = if 40 < lnameEnd s k - k then (⟨4, ⟨#[]⟩, k⟩, k) else if isWord (s.extract k (lnameEnd s k)) = true then (⟨3, s.extract k (lnameEnd s k), k⟩, lnameEnd s k) else (⟨1, s.extract k (lnameEnd s k), k⟩, lnameEnd s k)) := hide (by rw [HF1.out]; unfold lexAt; rw [if_pos ha])
            clear HF1 ha hd
            have HEs : ∃ b, decide ((k : Int) + 1 < (s.size : Int)) = b ∧ (b = true → k + 1 < s.size) := ⟨_, rfl, fun h => by have := of_decide_eq_true h; omega⟩
            obtain ⟨b, e2, hb2⟩ := HEs
            obtain ⟨W, hW⟩ : ∃ W, W = w.alloc (.cells #[.int .i64 0, .string ⟨#[]⟩, .int .i64 0] 55) := ⟨_, rfl⟩
            have hWz : W.heap[w.heap.size]? = some (.cells #[.int .i64 0, .string ⟨#[]⟩, .int .i64 0] 55 (0, 0)) := by rw [hW]; exact heap_alloc_new _ _
            have HWz := hide hWz
            rw [← hW] at KL KP hbl ⊢
            have HBl := hide hbl
            have HE : Hid (dots s (runTo partB s k) = lnameEnd s k) := rfl
            have hle := lnameEnd_le (s := s) (p := k) (by omega)
            generalize lnameEnd s k = m at *
            generalize runTo partB s k = q0 at *
            clear hWz hbl hW
            cases b
            case' true => have hk1 := hb2 rfl
            all_goals
              clear hb2
              go_wp2_with (first | (go_at_call 43; refine KL.out.mono ?_; rintro e W ⟨rfl, rfl⟩) | (go_at_call 44; refine KP.out.mono ?_; rintro e W ⟨rfl, rfl⟩))
              go_loopg [8] (s.size - q0) (fun g v wr => ∃ q : Nat, q + g = s.size ∧ v = .int .i64 (q : Nat) ∧ Hid (dots s q = m) ∧ wr = W)
              case atStart => exact ⟨q0, by omega, rfl, HE.out, rfl⟩
              case round =>
                clear KL KP HE d1 d2 d3 d4 e2 e3 h2 h3
                obtain ⟨q, hqg, rfl, HQ, rfl⟩ := hrel
                by_cases hc : q + 1 < s.size ∧ at_ s q = 46 ∧ alphaB (at_ s (q + 1)) = true
                · have HQ2 : Hid (dots s (runTo partB s (q + 1)) = m) := (dots_step hc.1 hc.2.1 hc.2.2).symm.trans HQ.out
                  obtain ⟨hc1, hc2, hc3⟩ := hc
                  have hq0 : q < s.size := by omega
                  have g1 : decide ((q : Int) + 1 < (s.size : Int)) = true := by simp; omega
                  have g2 : (((s[q]'hq0).toNat : Int) == 46) = true := by rw [at_eq hq0, hc2]; rfl
                  have K1 := hide (letter_calls (at_ s (q + 1)) wr)
                  rw [hc3, ← at_eq hc1] at K1
                  have K2 := hide (piece_calls s (q + 1) wr (by omega) hs)
                  have h4 := runTo_ge partB s (q + 1)
                  have h5 := runTo_le partB s (k := q + 1) (by omega)
                  generalize runTo partB s (q + 1) = q1 at *
                  clear HQ hc2 hc3
                  go_wp2_with (first | (go_at_call 43; refine K1.out.mono ?_; rintro e w' ⟨rfl, rfl⟩) | (go_at_call 44; refine K2.out.mono ?_; rintro e w' ⟨rfl, rfl⟩))
                  go_roundg (s.size - q1)
                  case measure => omega
                  case rel => exact ⟨q1, by omega, rfl, HQ2.out, rfl⟩
                · have hqm : q = m := (dots_stop hc).symm.trans HQ.out
                  have HcB : ∃ b1 b2, decide ((q : Int) + 1 < (s.size : Int)) = b1 ∧ (b1 = true → ∃ h1 : q < s.size, ∃ h2 : q + 1 < s.size, (((s[q]'h1).toNat : Int) == 46) = b2 ∧ (b2 = true → alphaB (at_ s (q + 1)) = false)) := by
                    by_cases h1 : q + 1 < s.size
                    · refine ⟨true, _, by simp; omega, fun _ => ⟨by omega, h1, rfl, fun h2 => ?_⟩⟩
                      have h3 : at_ s q = 46 := by
                        rw [← at_eq (by omega)]
                        have := eq_of_beq h2
                        omega
                      simpa using fun h4 => hc ⟨h1, h3, h4⟩
                    · exact ⟨false, false, by simp; omega, fun h => by simp at h⟩
                  have hqk : k ≤ q := by omega
                  obtain ⟨b1, b2, g1, hg⟩ := HcB
                  have KW := hide (fun W => word_calls (s.extract k q) W)
                  have HW : ∃ b3, isWord (s.extract k q) = b3 := ⟨_, rfl⟩
                  obtain ⟨b3, hw3⟩ := HW
                  rw [hw3] at KW
                  rw [← hqm] at HF2
                  clear HQ hc hqm
                  have HF4 : Hid (40 < q - k → fin = (⟨4, ⟨#[]⟩, k⟩, k)) := hide fun h => by rw [HF2.out, if_pos h]
                  have HFw : Hid (¬ 40 < q - k → b3 = true → fin = (⟨3, s.extract k q, k⟩, q)) := hide fun h h' => by rw [HF2.out, if_neg h, if_pos (by rw [hw3, h'])]
                  have HFn : Hid (¬ 40 < q - k → b3 = false → fin = (⟨1, s.extract k q, k⟩, q)) := hide fun h h' => by rw [HF2.out, if_neg h, if_neg (by rw [hw3, h']; simp)]
                  clear HF2 hw3
                  have hg0 : b1 = false ∨ (b1 = true ∧ b2 = false) ∨ (b1 = true ∧ b2 = true) := by cases b1 <;> cases b2 <;> simp
                  rcases hg0 with h1 | ⟨h1, h2⟩ | ⟨h1, h2⟩
                  case' inl => subst h1; clear hg; have K1 : Hid True := trivial
                  case' inr.inl => subst h1 h2; obtain ⟨hq0, hq1, g2, -⟩ := hg rfl; clear hg; have K1 : Hid True := trivial
                  case' inr.inr => subst h1 h2; obtain ⟨hq0, hq1, g2, hal⟩ := hg rfl; clear hg; have K1 := hide (letter_calls (at_ s (q + 1)) wr); rw [hal rfl, ← at_eq hq1] at K1; clear hal
                  all_goals
                    by_cases h40 : 40 < q - k
                    · have f1 : decide ((40 : Int) < (q : Int) - (k : Int)) = true := by simp; omega
                      have HFx := hide (HF4.out h40)
                      obtain ⟨c0, c1, c2, cf⟩ := cells3 HWz.out
                      clear HF4 HFw HFn KW h40
                      go_wp2_with (go_at_call 43; refine K1.out.mono ?_; rintro e w' ⟨rfl, rfl⟩)
                      exact lex_ret HFx.out rfl rfl (lset3 HWz.out _ _ _) (below3 HBl.out (Nat.le_refl _) _ _ _)
                    · have f1 : decide ((40 : Int) < (q : Int) - (k : Int)) = false := by simp; omega
                      cases b3
                      · have HFx := hide (HFn.out h40 rfl)
                        clear HF4 HFw HFn h40
                        go_wp2_with (first | (go_at_call 43; refine K1.out.mono ?_; rintro e w' ⟨rfl, rfl⟩) | (go_at_call 45; refine (KW.out _).mono ?_; rintro e W5 ⟨rfl, h5⟩; have h6 := (h5.block _ ((Array.getElem?_eq_some_iff.1 HWz.out).1)).trans HWz.out; obtain ⟨c0, c1, c2, cf⟩ := cells3 h6; have H6 := hide h6; have H5 := hide h5; clear h5 h6))
                        exact lex_ret HFx.out rfl rfl (lset3 H6.out _ _ _) (below3 (HBl.out.trans (H5.out.mono HBl.out.size)) (Nat.le_refl _) _ _ _)
                      · have HFx := hide (HFw.out h40 rfl)
                        clear HF4 HFw HFn h40
                        go_wp2_with (first | (go_at_call 43; refine K1.out.mono ?_; rintro e w' ⟨rfl, rfl⟩) | (go_at_call 45; refine (KW.out _).mono ?_; rintro e W5 ⟨rfl, h5⟩; have h6 := (h5.block _ ((Array.getElem?_eq_some_iff.1 HWz.out).1)).trans HWz.out; obtain ⟨c0, c1, c2, cf⟩ := cells3 h6; have H6 := hide h6; have H5 := hide h5; clear h5 h6))
                        exact lex_ret HFx.out rfl rfl (lset3 H6.out _ _ _) (below3 (HBl.out.trans (H5.out.mono HBl.out.size)) (Nat.le_refl _) _ _ _)
          · have ha' : alphaB (at_ s k) = false := by simpa using ha
            have KL := hide (letter_calls (at_ s k) (w.alloc (.cells #[.int .i64 0, .string ⟨#[]⟩, .int .i64 0] 55)))
            have KD := hide (digit_calls (at_ s k) (w.alloc (.cells #[.int .i64 0, .string ⟨#[]⟩, .int .i64 0] 55)))
            rw [ha', ← at_eq hk] at KL
            have HEs : ∃ b, decide ((k : Int) + 1 < (s.size : Int)) = b ∧ (b = true → k + 1 < s.size) ∧ (b = false → ¬ k + 1 < s.size) := ⟨_, rfl, fun h => by have := of_decide_eq_true h; omega, fun h => by have := of_decide_eq_false h; omega⟩
            obtain ⟨b, e2, hb2, hb3⟩ := HEs
            obtain ⟨W, hW⟩ : ∃ W, W = w.alloc (.cells #[.int .i64 0, .string ⟨#[]⟩, .int .i64 0] 55) := ⟨_, rfl⟩
            have hWz : W.heap[w.heap.size]? = some (.cells #[.int .i64 0, .string ⟨#[]⟩, .int .i64 0] 55 (0, 0)) := by rw [hW]; exact heap_alloc_new _ _
            have HWz := hide hWz
            rw [← hW] at KL KD hbl ⊢
            have HBl := hide hbl
            clear hWz hbl hW
            by_cases hdg : digitB (at_ s k) = true
            · have d4 : (((s[k]'hk).toNat : Int) == 45) = false := by
                rw [at_eq hk]
                simp [digitB] at hdg ⊢
                omega
              rw [hdg, ← at_eq hk] at KD
              have HF2 : Hid (fin = if 2 < runTo digitB s k - k ∨ (runTo digitB s k - k = 2 ∧ at_ s k = 48) then (⟨4, ⟨#[]⟩, k⟩, k) else (⟨2, s.extract k (runTo digitB s k), k⟩, runTo digitB s k)) := hide (by rw [HF1.out]; unfold lexAt; rw [if_neg ha, if_pos hdg])
              clear HF1 ha ha' hd hdg
              cases b
              case' true => have hk1 := hb2 rfl
              all_goals
                clear hb2 hb3
                go_wp2_with (first | (go_at_call 43; refine KL.out.mono ?_; rintro e W ⟨rfl, rfl⟩) | (go_at_call 46; refine KD.out.mono ?_; rintro e W ⟨rfl, rfl⟩))
                go_loopg [9] (s.size - k) (fun g v wr => ∃ q : Nat, q + g = s.size ∧ v = .int .i64 (q : Nat) ∧ Hid (runTo digitB s q = runTo digitB s k) ∧ wr = W)
                case atStart => exact ⟨k, by omega, rfl, rfl, rfl⟩
                case round =>
                  clear KL KD d1 d2 d3 d4 e2 e3
                  obtain ⟨q, hqg, rfl, HQ, rfl⟩ := hrel
                  have HQx : ∃ b1, decide ((q : Int) < (s.size : Int)) = b1 ∧ (b1 = true → q < s.size) ∧ (b1 = false → q = runTo digitB s k) := ⟨_, rfl, fun h => by have := of_decide_eq_true h; omega, fun h => (runTo_end (f := digitB) (s := s) (k := q) (by have := of_decide_eq_false h; omega)).symm.trans HQ.out⟩
                  obtain ⟨b1, g1, hg1, hg2⟩ := HQx
                  have HQy : ∃ b2, (b1 = true → digitB (at_ s q) = b2) ∧ (b2 = false → b1 = true → q = runTo digitB s k) ∧ (b2 = true → b1 = true → runTo digitB s (q + 1) = runTo digitB s k) := ⟨_, fun _ => rfl, fun h _ => (runTo_stop (s := s) (k := q) h).symm.trans HQ.out, fun h hq => (runTo_step (hg1 hq) h).symm.trans HQ.out⟩
                  obtain ⟨b2, g2, hg3, hg4⟩ := HQy
                  have hqk := runTo_ge digitB s k
                  have hgo : (b1 = true ∧ b2 = true) ∨ (b1 = false ∨ (b1 = true ∧ b2 = false)) := by cases b1 <;> cases b2 <;> simp
                  rcases hgo with ⟨h1, h2⟩ | hgo
                  · subst h1 h2
                    have HQ2 := hide (hg4 rfl rfl)
                    have hq := hg1 rfl
                    have K1 := hide (digit_calls (at_ s q) wr)
                    rw [g2 rfl, ← at_eq hq] at K1
                    clear hg1 hg2 hg3 hg4 g2 HQ hqk
                    go_wp2_with (go_at_call 46; refine K1.out.mono ?_; rintro e w' ⟨rfl, rfl⟩)
                    go_roundg (s.size - (q + 1))
                    case measure => omega
                    case rel => exact ⟨q + 1, by omega, by go_num, HQ2.out, rfl⟩
                  · have hqr : q = runTo digitB s k := by
                      rcases hgo with h | ⟨h, h'⟩
                      · exact hg2 h
                      · exact hg3 h' h
                    have hle : k ≤ q := by omega
                    rw [← hqr] at HF2
                    have HF4 : Hid ((2 < q - k ∨ (q - k = 2 ∧ at_ s k = 48)) → fin = (⟨4, ⟨#[]⟩, k⟩, k)) := hide fun h => by rw [HF2.out, if_pos h]
                    have HFn : Hid (¬ (2 < q - k ∨ (q - k = 2 ∧ at_ s k = 48)) → fin = (⟨2, s.extract k q, k⟩, q)) := hide fun h => by rw [HF2.out, if_neg h]
                    clear HF2 HQ hqr hqk hg2 hg3 hg4
                    rcases hgo with h1 | ⟨h1, h2⟩
                    case' inl => subst h1; clear g2 hg1; have hq : ¬ q < s.size := (by have := of_decide_eq_false g1; omega); have K1 : Hid True := trivial
                    case' inr => subst h1 h2; have hq := hg1 rfl; have K1 := hide (digit_calls (at_ s q) wr); rw [g2 rfl, ← at_eq hq] at K1; clear g2 hg1
                    all_goals
                      obtain ⟨c0, c1, c2, cf⟩ := cells3 HWz.out
                      by_cases h2 : 2 < q - k
                      · have f1 : decide ((2 : Int) < (q : Int) - (k : Int)) = true := by simp; omega
                        have HFx := hide (HF4.out (.inl h2))
                        clear HF4 HFn h2
                        go_wp2_with (go_at_call 46; refine K1.out.mono ?_; rintro e w' ⟨rfl, rfl⟩)
                        exact lex_ret HFx.out rfl rfl (lset3 HWz.out _ _ _) (below3 HBl.out (Nat.le_refl _) _ _ _)
                      · have f1 : decide ((2 : Int) < (q : Int) - (k : Int)) = false := by simp; omega
                        by_cases h3 : q - k = 2
                        · have f2 : ((q : Int) - (k : Int) == 2) = true := by simp; omega
                          by_cases h4 : at_ s k = 48
                          · have f3 : (((s[k]'hk).toNat : Int) == 48) = true := by rw [at_eq hk, h4]; rfl
                            have HFx := hide (HF4.out (.inr ⟨h3, h4⟩))
                            clear HF4 HFn h2 h3 h4
                            go_wp2_with (go_at_call 46; refine K1.out.mono ?_; rintro e w' ⟨rfl, rfl⟩)
                            exact lex_ret HFx.out rfl rfl (lset3 HWz.out _ _ _) (below3 HBl.out (Nat.le_refl _) _ _ _)
                          · have f3 : (((s[k]'hk).toNat : Int) == 48) = false := by rw [at_eq hk]; simp; omega
                            have HFx := hide (HFn.out (by omega))
                            clear HF4 HFn h2 h3 h4
                            go_wp2_with (go_at_call 46; refine K1.out.mono ?_; rintro e w' ⟨rfl, rfl⟩)
                            exact lex_ret HFx.out rfl rfl (lset3 HWz.out _ _ _) (below3 HBl.out (Nat.le_refl _) _ _ _)
                        · have f2 : ((q : Int) - (k : Int) == 2) = false := by simp; omega
                          have HFx := hide (HFn.out (by omega))
                          clear HF4 HFn h2 h3
                          go_wp2_with (go_at_call 46; refine K1.out.mono ?_; rintro e w' ⟨rfl, rfl⟩)
                          exact lex_ret HFx.out rfl rfl (lset3 HWz.out _ _ _) (below3 HBl.out (Nat.le_refl _) _ _ _)
            · have hdg' : digitB (at_ s k) = false := by simpa using hdg
              rw [hdg', ← at_eq hk] at KD
              have HF2 : Hid (fin = if k + 1 < s.size ∧ twoB (at_ s k) (at_ s (k + 1)) = true then (⟨3, s.extract k (k + 2), k⟩, k + 2) else if oneB (at_ s k) = true then (⟨3, s.extract k (k + 1), k⟩, k + 1) else (⟨4, ⟨#[]⟩, k⟩, k)) := hide (by rw [HF1.out]; unfold lexAt; rw [if_neg ha, if_neg hdg])
              clear HF1 ha ha' hdg hdg'
              obtain ⟨c0, c1, c2, cf⟩ := cells3 HWz.out
              by_cases ht : k + 1 < s.size ∧ twoB (at_ s k) (at_ s (k + 1)) = true
              · have HFx : Hid (fin = (⟨3, s.extract k (k + 2), k⟩, k + 2)) := hide (by rw [HF2.out, if_pos ht])
                obtain ⟨hk1, ht⟩ := ht
                have hx := two_text hk1
                clear HF2 hb2 hb3 e2 hd
                rw [← at_eq hk, ← at_eq hk1] at ht hx
                have e2 : decide ((k : Int) + 1 < (s.size : Int)) = true := by simp; omega
                have h4 : ((s[k]'hk).toNat = 58 ∧ (s[k + 1]'hk1).toNat = 61) ∨ ((s[k]'hk).toNat = 61 ∧ (s[k + 1]'hk1).toNat = 62) ∨ ((s[k]'hk).toNat = 45 ∧ (s[k + 1]'hk1).toNat = 62) ∨ ((s[k]'hk).toNat = 46 ∧ (s[k + 1]'hk1).toNat = 123) := by
                  simp [twoB] at ht
                  omega
                rcases h4 with ⟨y1, y2⟩ | ⟨y1, y2⟩ | ⟨y1, y2⟩ | ⟨y1, y2⟩
                · have x1 : ((s.extract k (k + 2)).toList == [58, 61]) = true := (hx [58, 61] rfl).trans (by rw [y1, y2]; rfl)
                  have x2 : ((s.extract k (k + 2)).toList == [61, 62]) = false := (hx [61, 62] rfl).trans (by rw [y1, y2]; rfl)
                  have x3 : ((s.extract k (k + 2)).toList == [45, 62]) = false := (hx [45, 62] rfl).trans (by rw [y1, y2]; rfl)
                  have x4 : ((s.extract k (k + 2)).toList == [46, 123]) = false := (hx [46, 123] rfl).trans (by rw [y1, y2]; rfl)
                  have d4 : (((s[k]'hk).toNat : Int) == 45) = false := by rw [y1]; rfl
                  have d5 : (((s[k + 1]'hk1).toNat : Int) == 45) = false := by rw [y2]; rfl
                  clear hx ht y1 y2
                  go_wp2_with (first | (go_at_call 43; refine KL.out.mono ?_; rintro e w' ⟨rfl, rfl⟩) | (go_at_call 46; refine KD.out.mono ?_; rintro e w' ⟨rfl, rfl⟩))
                  exact lex_ret HFx.out rfl rfl (lset3 HWz.out _ _ _) (below3 HBl.out (Nat.le_refl _) _ _ _)
                · have x1 : ((s.extract k (k + 2)).toList == [58, 61]) = false := (hx [58, 61] rfl).trans (by rw [y1, y2]; rfl)
                  have x2 : ((s.extract k (k + 2)).toList == [61, 62]) = true := (hx [61, 62] rfl).trans (by rw [y1, y2]; rfl)
                  have x3 : ((s.extract k (k + 2)).toList == [45, 62]) = false := (hx [45, 62] rfl).trans (by rw [y1, y2]; rfl)
                  have x4 : ((s.extract k (k + 2)).toList == [46, 123]) = false := (hx [46, 123] rfl).trans (by rw [y1, y2]; rfl)
                  have d4 : (((s[k]'hk).toNat : Int) == 45) = false := by rw [y1]; rfl
                  have d5 : (((s[k + 1]'hk1).toNat : Int) == 45) = false := by rw [y2]; rfl
                  clear hx ht y1 y2
                  go_wp2_with (first | (go_at_call 43; refine KL.out.mono ?_; rintro e w' ⟨rfl, rfl⟩) | (go_at_call 46; refine KD.out.mono ?_; rintro e w' ⟨rfl, rfl⟩))
                  exact lex_ret HFx.out rfl rfl (lset3 HWz.out _ _ _) (below3 HBl.out (Nat.le_refl _) _ _ _)
                · have x1 : ((s.extract k (k + 2)).toList == [58, 61]) = false := (hx [58, 61] rfl).trans (by rw [y1, y2]; rfl)
                  have x2 : ((s.extract k (k + 2)).toList == [61, 62]) = false := (hx [61, 62] rfl).trans (by rw [y1, y2]; rfl)
                  have x3 : ((s.extract k (k + 2)).toList == [45, 62]) = true := (hx [45, 62] rfl).trans (by rw [y1, y2]; rfl)
                  have x4 : ((s.extract k (k + 2)).toList == [46, 123]) = false := (hx [46, 123] rfl).trans (by rw [y1, y2]; rfl)
                  have d4 : (((s[k]'hk).toNat : Int) == 45) = true := by rw [y1]; rfl
                  have d5 : (((s[k + 1]'hk1).toNat : Int) == 45) = false := by rw [y2]; rfl
                  clear hx ht y1 y2
                  go_wp2_with (first | (go_at_call 43; refine KL.out.mono ?_; rintro e w' ⟨rfl, rfl⟩) | (go_at_call 46; refine KD.out.mono ?_; rintro e w' ⟨rfl, rfl⟩))
                  exact lex_ret HFx.out rfl rfl (lset3 HWz.out _ _ _) (below3 HBl.out (Nat.le_refl _) _ _ _)
                · have x1 : ((s.extract k (k + 2)).toList == [58, 61]) = false := (hx [58, 61] rfl).trans (by rw [y1, y2]; rfl)
                  have x2 : ((s.extract k (k + 2)).toList == [61, 62]) = false := (hx [61, 62] rfl).trans (by rw [y1, y2]; rfl)
                  have x3 : ((s.extract k (k + 2)).toList == [45, 62]) = false := (hx [45, 62] rfl).trans (by rw [y1, y2]; rfl)
                  have x4 : ((s.extract k (k + 2)).toList == [46, 123]) = true := (hx [46, 123] rfl).trans (by rw [y1, y2]; rfl)
                  have d4 : (((s[k]'hk).toNat : Int) == 45) = false := by rw [y1]; rfl
                  have d5 : (((s[k + 1]'hk1).toNat : Int) == 45) = false := by rw [y2]; rfl
                  clear hx ht y1 y2
                  go_wp2_with (first | (go_at_call 43; refine KL.out.mono ?_; rintro e w' ⟨rfl, rfl⟩) | (go_at_call 46; refine KD.out.mono ?_; rintro e w' ⟨rfl, rfl⟩))
                  exact lex_ret HFx.out rfl rfl (lset3 HWz.out _ _ _) (below3 HBl.out (Nat.le_refl _) _ _ _)
              · have HF3 : Hid (fin = if oneB (at_ s k) = true then (⟨3, s.extract k (k + 1), k⟩, k + 1) else (⟨4, ⟨#[]⟩, k⟩, k)) := hide (by rw [HF2.out, if_neg ht])
                have hdd : k + 1 < s.size → at_ s k = 45 → at_ s (k + 1) ≠ 45 := fun h1 h2 h3 => hd ⟨h1, h2, h3⟩
                have htt : ∀ h1 : k + 1 < s.size, twoB (at_ s k) (at_ s (k + 1)) = false := fun h1 => by simpa using fun h2 => ht ⟨h1, h2⟩
                clear HF2 hd ht
                have HX : ∀ h1 : k + 1 < s.size, ((s.extract k (k + 2)).toList == [58, 61]) = false ∧ ((s.extract k (k + 2)).toList == [61, 62]) = false ∧ ((s.extract k (k + 2)).toList == [45, 62]) = false ∧ ((s.extract k (k + 2)).toList == [46, 123]) = false := fun h1 => by
                  have h2 := htt h1
                  rw [two_text h1 _ rfl, two_text h1 _ rfl, two_text h1 _ rfl, two_text h1 _ rfl]
                  simp [twoB] at h2 ⊢
                  omega
                clear htt
                rw [← at_eq hk] at HF3 hdd
                by_cases ho : oneB (s[k]'hk).toNat = true
                · have HFx : Hid (fin = (⟨3, s.extract k (k + 1), k⟩, k + 1)) := hide (by rw [HF3.out, if_pos ho])
                  clear HF3 hdd
                  have h13 : (s[k]'hk).toNat = 40 ∨ (s[k]'hk).toNat = 41 ∨ (s[k]'hk).toNat = 123 ∨ (s[k]'hk).toNat = 125 ∨ (s[k]'hk).toNat = 58 ∨ (s[k]'hk).toNat = 44 ∨ (s[k]'hk).toNat = 46 ∨ (s[k]'hk).toNat = 124 ∨ (s[k]'hk).toNat = 64 ∨ (s[k]'hk).toNat = 95 ∨ (s[k]'hk).toNat = 61 ∨ (s[k]'hk).toNat = 59 ∨ (s[k]'hk).toNat = 43 := by
                    simp [oneB] at ho
                    omega
                  clear ho
                  cases b
                  case' true => have hk1 := hb2 rfl; obtain ⟨x1, x2, x3, x4⟩ := HX hk1
                  case' false => have hk1 := hb3 rfl
                  all_goals
                    clear hb2 hb3 HX
                    rcases h13 with y | y | y | y | y | y | y | y | y | y | y | y | y
                    · have d4 : (((s[k]'hk).toNat : Int) == 45) = false := by rw [y]; rfl
                      have z0 : (((s[k]'hk).toNat : Int) == 40) = true := by rw [y]; rfl
                      clear y
                      go_wp2_with (first | (go_at_call 43; refine KL.out.mono ?_; rintro e w' ⟨rfl, rfl⟩) | (go_at_call 46; refine KD.out.mono ?_; rintro e w' ⟨rfl, rfl⟩))
                      exact lex_ret HFx.out rfl rfl (lset3 HWz.out _ _ _) (below3 HBl.out (Nat.le_refl _) _ _ _)
                    · have d4 : (((s[k]'hk).toNat : Int) == 45) = false := by rw [y]; rfl
                      have z0 : (((s[k]'hk).toNat : Int) == 40) = false := by rw [y]; rfl
                      have z1 : (((s[k]'hk).toNat : Int) == 41) = true := by rw [y]; rfl
                      clear y
                      go_wp2_with (first | (go_at_call 43; refine KL.out.mono ?_; rintro e w' ⟨rfl, rfl⟩) | (go_at_call 46; refine KD.out.mono ?_; rintro e w' ⟨rfl, rfl⟩))
                      exact lex_ret HFx.out rfl rfl (lset3 HWz.out _ _ _) (below3 HBl.out (Nat.le_refl _) _ _ _)
                    · have d4 : (((s[k]'hk).toNat : Int) == 45) = false := by rw [y]; rfl
                      have z0 : (((s[k]'hk).toNat : Int) == 40) = false := by rw [y]; rfl
                      have z1 : (((s[k]'hk).toNat : Int) == 41) = false := by rw [y]; rfl
                      have z2 : (((s[k]'hk).toNat : Int) == 123) = true := by rw [y]; rfl
                      clear y
                      go_wp2_with (first | (go_at_call 43; refine KL.out.mono ?_; rintro e w' ⟨rfl, rfl⟩) | (go_at_call 46; refine KD.out.mono ?_; rintro e w' ⟨rfl, rfl⟩))
                      exact lex_ret HFx.out rfl rfl (lset3 HWz.out _ _ _) (below3 HBl.out (Nat.le_refl _) _ _ _)
                    · have d4 : (((s[k]'hk).toNat : Int) == 45) = false := by rw [y]; rfl
                      have z0 : (((s[k]'hk).toNat : Int) == 40) = false := by rw [y]; rfl
                      have z1 : (((s[k]'hk).toNat : Int) == 41) = false := by rw [y]; rfl
                      have z2 : (((s[k]'hk).toNat : Int) == 123) = false := by rw [y]; rfl
                      have z3 : (((s[k]'hk).toNat : Int) == 125) = true := by rw [y]; rfl
                      clear y
                      go_wp2_with (first | (go_at_call 43; refine KL.out.mono ?_; rintro e w' ⟨rfl, rfl⟩) | (go_at_call 46; refine KD.out.mono ?_; rintro e w' ⟨rfl, rfl⟩))
                      exact lex_ret HFx.out rfl rfl (lset3 HWz.out _ _ _) (below3 HBl.out (Nat.le_refl _) _ _ _)
                    · have d4 : (((s[k]'hk).toNat : Int) == 45) = false := by rw [y]; rfl
                      have z0 : (((s[k]'hk).toNat : Int) == 40) = false := by rw [y]; rfl
                      have z1 : (((s[k]'hk).toNat : Int) == 41) = false := by rw [y]; rfl
                      have z2 : (((s[k]'hk).toNat : Int) == 123) = false := by rw [y]; rfl
                      have z3 : (((s[k]'hk).toNat : Int) == 125) = false := by rw [y]; rfl
                      have z4 : (((s[k]'hk).toNat : Int) == 58) = true := by rw [y]; rfl
                      clear y
                      go_wp2_with (first | (go_at_call 43; refine KL.out.mono ?_; rintro e w' ⟨rfl, rfl⟩) | (go_at_call 46; refine KD.out.mono ?_; rintro e w' ⟨rfl, rfl⟩))
                      exact lex_ret HFx.out rfl rfl (lset3 HWz.out _ _ _) (below3 HBl.out (Nat.le_refl _) _ _ _)
                    · have d4 : (((s[k]'hk).toNat : Int) == 45) = false := by rw [y]; rfl
                      have z0 : (((s[k]'hk).toNat : Int) == 40) = false := by rw [y]; rfl
                      have z1 : (((s[k]'hk).toNat : Int) == 41) = false := by rw [y]; rfl
                      have z2 : (((s[k]'hk).toNat : Int) == 123) = false := by rw [y]; rfl
                      have z3 : (((s[k]'hk).toNat : Int) == 125) = false := by rw [y]; rfl
                      have z4 : (((s[k]'hk).toNat : Int) == 58) = false := by rw [y]; rfl
                      have z5 : (((s[k]'hk).toNat : Int) == 44) = true := by rw [y]; rfl
                      clear y
                      go_wp2_with (first | (go_at_call 43; refine KL.out.mono ?_; rintro e w' ⟨rfl, rfl⟩) | (go_at_call 46; refine KD.out.mono ?_; rintro e w' ⟨rfl, rfl⟩))
                      exact lex_ret HFx.out rfl rfl (lset3 HWz.out _ _ _) (below3 HBl.out (Nat.le_refl _) _ _ _)
                    · have d4 : (((s[k]'hk).toNat : Int) == 45) = false := by rw [y]; rfl
                      have z0 : (((s[k]'hk).toNat : Int) == 40) = false := by rw [y]; rfl
                      have z1 : (((s[k]'hk).toNat : Int) == 41) = false := by rw [y]; rfl
                      have z2 : (((s[k]'hk).toNat : Int) == 123) = false := by rw [y]; rfl
                      have z3 : (((s[k]'hk).toNat : Int) == 125) = false := by rw [y]; rfl
                      have z4 : (((s[k]'hk).toNat : Int) == 58) = false := by rw [y]; rfl
                      have z5 : (((s[k]'hk).toNat : Int) == 44) = false := by rw [y]; rfl
                      have z6 : (((s[k]'hk).toNat : Int) == 46) = true := by rw [y]; rfl
                      clear y
                      go_wp2_with (first | (go_at_call 43; refine KL.out.mono ?_; rintro e w' ⟨rfl, rfl⟩) | (go_at_call 46; refine KD.out.mono ?_; rintro e w' ⟨rfl, rfl⟩))
                      exact lex_ret HFx.out rfl rfl (lset3 HWz.out _ _ _) (below3 HBl.out (Nat.le_refl _) _ _ _)
                    · have d4 : (((s[k]'hk).toNat : Int) == 45) = false := by rw [y]; rfl
                      have z0 : (((s[k]'hk).toNat : Int) == 40) = false := by rw [y]; rfl
                      have z1 : (((s[k]'hk).toNat : Int) == 41) = false := by rw [y]; rfl
                      have z2 : (((s[k]'hk).toNat : Int) == 123) = false := by rw [y]; rfl
                      have z3 : (((s[k]'hk).toNat : Int) == 125) = false := by rw [y]; rfl
                      have z4 : (((s[k]'hk).toNat : Int) == 58) = false := by rw [y]; rfl
                      have z5 : (((s[k]'hk).toNat : Int) == 44) = false := by rw [y]; rfl
                      have z6 : (((s[k]'hk).toNat : Int) == 46) = false := by rw [y]; rfl
                      have z7 : (((s[k]'hk).toNat : Int) == 124) = true := by rw [y]; rfl
                      clear y
                      go_wp2_with (first | (go_at_call 43; refine KL.out.mono ?_; rintro e w' ⟨rfl, rfl⟩) | (go_at_call 46; refine KD.out.mono ?_; rintro e w' ⟨rfl, rfl⟩))
                      exact lex_ret HFx.out rfl rfl (lset3 HWz.out _ _ _) (below3 HBl.out (Nat.le_refl _) _ _ _)
                    · have d4 : (((s[k]'hk).toNat : Int) == 45) = false := by rw [y]; rfl
                      have z0 : (((s[k]'hk).toNat : Int) == 40) = false := by rw [y]; rfl
                      have z1 : (((s[k]'hk).toNat : Int) == 41) = false := by rw [y]; rfl
                      have z2 : (((s[k]'hk).toNat : Int) == 123) = false := by rw [y]; rfl
                      have z3 : (((s[k]'hk).toNat : Int) == 125) = false := by rw [y]; rfl
                      have z4 : (((s[k]'hk).toNat : Int) == 58) = false := by rw [y]; rfl
                      have z5 : (((s[k]'hk).toNat : Int) == 44) = false := by rw [y]; rfl
                      have z6 : (((s[k]'hk).toNat : Int) == 46) = false := by rw [y]; rfl
                      have z7 : (((s[k]'hk).toNat : Int) == 124) = false := by rw [y]; rfl
                      have z8 : (((s[k]'hk).toNat : Int) == 64) = true := by rw [y]; rfl
                      clear y
                      go_wp2_with (first | (go_at_call 43; refine KL.out.mono ?_; rintro e w' ⟨rfl, rfl⟩) | (go_at_call 46; refine KD.out.mono ?_; rintro e w' ⟨rfl, rfl⟩))
                      exact lex_ret HFx.out rfl rfl (lset3 HWz.out _ _ _) (below3 HBl.out (Nat.le_refl _) _ _ _)
                    · have d4 : (((s[k]'hk).toNat : Int) == 45) = false := by rw [y]; rfl
                      have z0 : (((s[k]'hk).toNat : Int) == 40) = false := by rw [y]; rfl
                      have z1 : (((s[k]'hk).toNat : Int) == 41) = false := by rw [y]; rfl
                      have z2 : (((s[k]'hk).toNat : Int) == 123) = false := by rw [y]; rfl
                      have z3 : (((s[k]'hk).toNat : Int) == 125) = false := by rw [y]; rfl
                      have z4 : (((s[k]'hk).toNat : Int) == 58) = false := by rw [y]; rfl
                      have z5 : (((s[k]'hk).toNat : Int) == 44) = false := by rw [y]; rfl
                      have z6 : (((s[k]'hk).toNat : Int) == 46) = false := by rw [y]; rfl
                      have z7 : (((s[k]'hk).toNat : Int) == 124) = false := by rw [y]; rfl
                      have z8 : (((s[k]'hk).toNat : Int) == 64) = false := by rw [y]; rfl
                      have z9 : (((s[k]'hk).toNat : Int) == 95) = true := by rw [y]; rfl
                      clear y
                      go_wp2_with (first | (go_at_call 43; refine KL.out.mono ?_; rintro e w' ⟨rfl, rfl⟩) | (go_at_call 46; refine KD.out.mono ?_; rintro e w' ⟨rfl, rfl⟩))
                      exact lex_ret HFx.out rfl rfl (lset3 HWz.out _ _ _) (below3 HBl.out (Nat.le_refl _) _ _ _)
                    · have d4 : (((s[k]'hk).toNat : Int) == 45) = false := by rw [y]; rfl
                      have z0 : (((s[k]'hk).toNat : Int) == 40) = false := by rw [y]; rfl
                      have z1 : (((s[k]'hk).toNat : Int) == 41) = false := by rw [y]; rfl
                      have z2 : (((s[k]'hk).toNat : Int) == 123) = false := by rw [y]; rfl
                      have z3 : (((s[k]'hk).toNat : Int) == 125) = false := by rw [y]; rfl
                      have z4 : (((s[k]'hk).toNat : Int) == 58) = false := by rw [y]; rfl
                      have z5 : (((s[k]'hk).toNat : Int) == 44) = false := by rw [y]; rfl
                      have z6 : (((s[k]'hk).toNat : Int) == 46) = false := by rw [y]; rfl
                      have z7 : (((s[k]'hk).toNat : Int) == 124) = false := by rw [y]; rfl
                      have z8 : (((s[k]'hk).toNat : Int) == 64) = false := by rw [y]; rfl
                      have z9 : (((s[k]'hk).toNat : Int) == 95) = false := by rw [y]; rfl
                      have z10 : (((s[k]'hk).toNat : Int) == 61) = true := by rw [y]; rfl
                      clear y
                      go_wp2_with (first | (go_at_call 43; refine KL.out.mono ?_; rintro e w' ⟨rfl, rfl⟩) | (go_at_call 46; refine KD.out.mono ?_; rintro e w' ⟨rfl, rfl⟩))
                      exact lex_ret HFx.out rfl rfl (lset3 HWz.out _ _ _) (below3 HBl.out (Nat.le_refl _) _ _ _)
                    · have d4 : (((s[k]'hk).toNat : Int) == 45) = false := by rw [y]; rfl
                      have z0 : (((s[k]'hk).toNat : Int) == 40) = false := by rw [y]; rfl
                      have z1 : (((s[k]'hk).toNat : Int) == 41) = false := by rw [y]; rfl
                      have z2 : (((s[k]'hk).toNat : Int) == 123) = false := by rw [y]; rfl
                      have z3 : (((s[k]'hk).toNat : Int) == 125) = false := by rw [y]; rfl
                      have z4 : (((s[k]'hk).toNat : Int) == 58) = false := by rw [y]; rfl
                      have z5 : (((s[k]'hk).toNat : Int) == 44) = false := by rw [y]; rfl
                      have z6 : (((s[k]'hk).toNat : Int) == 46) = false := by rw [y]; rfl
                      have z7 : (((s[k]'hk).toNat : Int) == 124) = false := by rw [y]; rfl
                      have z8 : (((s[k]'hk).toNat : Int) == 64) = false := by rw [y]; rfl
                      have z9 : (((s[k]'hk).toNat : Int) == 95) = false := by rw [y]; rfl
                      have z10 : (((s[k]'hk).toNat : Int) == 61) = false := by rw [y]; rfl
                      have z11 : (((s[k]'hk).toNat : Int) == 59) = true := by rw [y]; rfl
                      clear y
                      go_wp2_with (first | (go_at_call 43; refine KL.out.mono ?_; rintro e w' ⟨rfl, rfl⟩) | (go_at_call 46; refine KD.out.mono ?_; rintro e w' ⟨rfl, rfl⟩))
                      exact lex_ret HFx.out rfl rfl (lset3 HWz.out _ _ _) (below3 HBl.out (Nat.le_refl _) _ _ _)
                    · have d4 : (((s[k]'hk).toNat : Int) == 45) = false := by rw [y]; rfl
                      have z0 : (((s[k]'hk).toNat : Int) == 40) = false := by rw [y]; rfl
                      have z1 : (((s[k]'hk).toNat : Int) == 41) = false := by rw [y]; rfl
                      have z2 : (((s[k]'hk).toNat : Int) == 123) = false := by rw [y]; rfl
                      have z3 : (((s[k]'hk).toNat : Int) == 125) = false := by rw [y]; rfl
                      have z4 : (((s[k]'hk).toNat : Int) == 58) = false := by rw [y]; rfl
                      have z5 : (((s[k]'hk).toNat : Int) == 44) = false := by rw [y]; rfl
                      have z6 : (((s[k]'hk).toNat : Int) == 46) = false := by rw [y]; rfl
                      have z7 : (((s[k]'hk).toNat : Int) == 124) = false := by rw [y]; rfl
                      have z8 : (((s[k]'hk).toNat : Int) == 64) = false := by rw [y]; rfl
                      have z9 : (((s[k]'hk).toNat : Int) == 95) = false := by rw [y]; rfl
                      have z10 : (((s[k]'hk).toNat : Int) == 61) = false := by rw [y]; rfl
                      have z11 : (((s[k]'hk).toNat : Int) == 59) = false := by rw [y]; rfl
                      have z12 : (((s[k]'hk).toNat : Int) == 43) = true := by rw [y]; rfl
                      clear y
                      go_wp2_with (first | (go_at_call 43; refine KL.out.mono ?_; rintro e w' ⟨rfl, rfl⟩) | (go_at_call 46; refine KD.out.mono ?_; rintro e w' ⟨rfl, rfl⟩))
                      exact lex_ret HFx.out rfl rfl (lset3 HWz.out _ _ _) (below3 HBl.out (Nat.le_refl _) _ _ _)
                · have HFx : Hid (fin = (⟨4, ⟨#[]⟩, k⟩, k)) := hide (by rw [HF3.out, if_neg ho])
                  have ho' : oneB (s[k]'hk).toNat = false := by simpa using ho
                  have hz : (((s[k]'hk).toNat : Int) == 40) = false ∧ (((s[k]'hk).toNat : Int) == 41) = false ∧ (((s[k]'hk).toNat : Int) == 123) = false ∧ (((s[k]'hk).toNat : Int) == 125) = false ∧ (((s[k]'hk).toNat : Int) == 58) = false ∧ (((s[k]'hk).toNat : Int) == 44) = false ∧ (((s[k]'hk).toNat : Int) == 46) = false ∧ (((s[k]'hk).toNat : Int) == 124) = false ∧ (((s[k]'hk).toNat : Int) == 64) = false ∧ (((s[k]'hk).toNat : Int) == 95) = false ∧ (((s[k]'hk).toNat : Int) == 61) = false ∧ (((s[k]'hk).toNat : Int) == 59) = false ∧ (((s[k]'hk).toNat : Int) == 43) = false := by
                    simp [oneB] at ho' ⊢
                    omega
                  obtain ⟨z0, z1, z2, z3, z4, z5, z6, z7, z8, z9, z10, z11, z12⟩ := hz
                  clear HF3 ho ho'
                  have HD4 : ∃ b4, (((s[k]'hk).toNat : Int) == 45) = b4 ∧ (b4 = true → (s[k]'hk).toNat = 45) := ⟨_, rfl, fun h => by have := eq_of_beq h; omega⟩
                  obtain ⟨b4, d4, hd4⟩ := HD4
                  have HD5 : ∀ h1 : k + 1 < s.size, b4 = true → (((s[k + 1]'h1).toNat : Int) == 45) = false := fun h1 h4 => by
                    have h5 := hdd h1 (hd4 h4)
                    rw [← at_eq h1] at h5
                    simp
                    omega
                  clear hdd hd4
                  cases b
                  case' true => have hk1 := hb2 rfl; obtain ⟨x1, x2, x3, x4⟩ := HX hk1; have d5 := HD5 hk1
                  case' false => have hk1 := hb3 rfl; have d5 : Hid True := trivial
                  all_goals
                    clear hb2 hb3 HX HD5
                    cases b4
                    case' true => first | replace d5 := d5 rfl | skip
                    case' false => clear d5
                    all_goals
                      go_wp2_with (first | (go_at_call 43; refine KL.out.mono ?_; rintro e w' ⟨rfl, rfl⟩) | (go_at_call 46; refine KD.out.mono ?_; rintro e w' ⟨rfl, rfl⟩))
                      exact lex_ret HFx.out rfl rfl (lset3 HWz.out _ _ _) (below3 HBl.out (Nat.le_refl _) _ _ _)
    · have hsk : k = skip s p := (skip_end (by omega)).symm.trans HR.out
      have hke : k = s.size := by omega
      have e1 : decide ((k : Int) < (s.size : Int)) = false := by simp; omega
      have e3 : ((k : Int) == (s.size : Int)) = true := by simp; omega
      have HF1 : Hid (fin = (⟨0, ⟨#[]⟩, k⟩, k)) := hide (by rw [HF.out]; unfold lex; rw [← hsk, if_pos hke, ← hke])
      clear HF HR hsk hke
      go_wp2_with fail
      exact lex_ret HF1.out rfl rfl (heap_alloc_new _ _) ((Below.refl _ _).alloc (Nat.le_refl _) _)
end Go.Proofs.YtekfledccpeblaaGreatDoor
