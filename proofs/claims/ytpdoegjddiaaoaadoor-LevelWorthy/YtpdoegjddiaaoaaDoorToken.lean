/- The contract of token: the next token of a text, where it begins, whether one does. -/
import Derived.Test.YtpdoegjddiaaoaaDoorTok
import Derived.Deep.CutBlock
import Derived.Deep.DeepCutAuto
namespace Go.Proofs.YtpdoegjddiaaoaaDoor
open Go.RowKit

theorem tokAt_hash {s : ByteArray} {k : Nat} (h1 : ¬ (at_ s k = 40 ∨ at_ s k = 41)) (h2 : nameB (at_ s k) true = false) (h3 : at_ s k = 35) :
    tokAt s k = if runTo digitB s (k + 1) = k + 1 ∨ 5 < runTo digitB s (k + 1) - (k + 1) ∨ (1 < runTo digitB s (k + 1) - (k + 1) ∧ at_ s (k + 1) = 48) then ⟨⟨#[]⟩, k, false⟩ else ⟨s.extract k (runTo digitB s (k + 1)), k, true⟩ := by
  unfold tokAt
  rw [if_neg h1, if_neg (by simp [h2]), if_pos (.inl h3)]
  simp only [if_pos h3]

theorem tokAt_digit {s : ByteArray} {k : Nat} (h1 : ¬ (at_ s k = 40 ∨ at_ s k = 41)) (h2 : nameB (at_ s k) true = false) (h3 : at_ s k ≠ 35) (h4 : digitB (at_ s k) = true) :
    tokAt s k = if runTo digitB s (k + 1) = k ∨ 5 < runTo digitB s (k + 1) - k ∨ (1 < runTo digitB s (k + 1) - k ∧ at_ s k = 48) then ⟨⟨#[]⟩, k, false⟩ else ⟨s.extract k (runTo digitB s (k + 1)), k, true⟩ := by
  unfold tokAt
  rw [if_neg h1, if_neg (by simp [h2]), if_pos (.inr h4)]
  simp only [if_neg h3]

set_option maxRecDepth 4000 in
set_option maxHeartbeats 16000000 in
theorem token_calls (s : ByteArray) (p rb : Nat) (w : World) (hs : s.size ≤ 20000) (hp : p ≤ s.size) (c0 : w.cell? ⟨rb, 0, none⟩ = some (.string s)) (c1 : w.cell? ⟨rb, 1, none⟩ = some (.int .i64 (p : Nat))) :
    Calls Tryd.prog 26 #[.pointer (some ⟨rb, 0, none⟩)] w fun e w' => e = .returned (.tuple #[.string (tok s p).t, .int .i64 ((tok s p).at_ : Nat), .bool (tok s p).ok]) ∧ w' = w := by
  go_enter Tryd.func26, Tryd.ntmps26
  go_wp2_with fail
  go_loopg [5] (s.size - p) (fun g i wr => ∃ k : Nat, k ≤ s.size ∧ s.size - k = g ∧ i = .int .i64 k ∧ runTo blankB s p = runTo blankB s k ∧ wr = w)
  case atStart => exact ⟨p, hp, rfl, rfl, rfl, rfl⟩
  case round =>
    obtain ⟨k, hk, hkg, rfl, hrun, rfl⟩ := hrel
    have HR := hide hrun
    have HG := hide hkg
    clear hrun hkg
    by_cases hlt : k < s.size
    · have hat := at_eq hlt
      have HAt := hide hat
      by_cases h1 : at_ s k = 32
      · have e1 : (((s[k]).toNat : Int) == 32) = true := by rw [hat, h1]; rfl
        have HS := hide (runTo_step (f := blankB) hlt (by simp [blankB, h1]))
        clear hat h1
        go_wp2_with fail
        go_roundg (s.size - (k + 1))
        case measure => have := HG.out; omega
        case rel => exact ⟨k + 1, by omega, rfl, by go_num, HR.out.trans HS.out, rfl⟩
      · have e1 : (((s[k]).toNat : Int) == 32) = false := by rw [hat]; simp; omega
        by_cases h2 : at_ s k = 9
        · have e2 : (((s[k]).toNat : Int) == 9) = true := by rw [hat, h2]; rfl
          have HS := hide (runTo_step (f := blankB) hlt (by simp [blankB, h2]))
          clear hat h1 h2
          go_wp2_with fail
          go_roundg (s.size - (k + 1))
          case measure => have := HG.out; omega
          case rel => exact ⟨k + 1, by omega, rfl, by go_num, HR.out.trans HS.out, rfl⟩
        · have e2 : (((s[k]).toNat : Int) == 9) = false := by rw [hat]; simp; omega
          by_cases h3 : at_ s k = 10
          · have e3 : (((s[k]).toNat : Int) == 10) = true := by rw [hat, h3]; rfl
            have HS := hide (runTo_step (f := blankB) hlt (by simp [blankB, h3]))
            clear hat h1 h2 h3
            go_wp2_with fail
            go_roundg (s.size - (k + 1))
            case measure => have := HG.out; omega
            case rel => exact ⟨k + 1, by omega, rfl, by go_num, HR.out.trans HS.out, rfl⟩
          · have e3 : (((s[k]).toNat : Int) == 10) = false := by rw [hat]; simp; omega
            have HS := hide (HR.out.trans (runTo_stop (f := blankB) (by simp [blankB, h1, h2, h3])))
            have HT : Hid (tok s p = tokAt s k) := by
              unfold Hid tok; rw [HS.out, if_neg (by omega)]
            clear hat h1 h2 h3
            have hkb : ((k : Int) == (s.size : Int)) = false := by simp; omega
            have HNB := hide (fun W => nameByte_calls (s[k]).toNat true W (s[k]).toNat_lt)
            by_cases ha : at_ s k = 40 ∨ at_ s k = 41
            · have HT2 : Hid (tok s p = ⟨s.extract k (k + 1), k, true⟩) := by
                rw [HT.out, tokAt, if_pos ha]; rfl
              rcases ha with ha | ha
              · have e4 : (((s[k]).toNat : Int) == 40) = true := by rw [HAt.out, ha]; rfl
                clear ha
                go_wp2_with (go_at_call 46; refine (HNB.out _).mono ?_; rintro e w' ⟨rfl, rfl⟩)
                go_ret3
                refine ⟨?_, rfl⟩
                rw [HT2.out]
                rfl
              · have e4 : (((s[k]).toNat : Int) == 40) = false := by rw [HAt.out, ha]; rfl
                have e5 : (((s[k]).toNat : Int) == 41) = true := by rw [HAt.out, ha]; rfl
                clear ha
                go_wp2_with (go_at_call 46; refine (HNB.out _).mono ?_; rintro e w' ⟨rfl, rfl⟩)
                go_ret3
                refine ⟨?_, rfl⟩
                rw [HT2.out]
                rfl
            · have hA := hide ha
              have e4 : (((s[k]).toNat : Int) == 40) = false := by rw [HAt.out]; simp; omega
              have e5 : (((s[k]).toNat : Int) == 41) = false := by rw [HAt.out]; simp; omega
              clear ha
              by_cases hn : nameB (s[k]).toNat true = true
              · have HT2 : Hid (tok s p = if 40 < runTo (fun c => nameB c false) s (k + 1) - k then ⟨⟨#[]⟩, k, false⟩ else ⟨s.extract k (runTo (fun c => nameB c false) s (k + 1)), k, true⟩) := by
                  rw [HT.out, tokAt, if_neg hA.out, if_pos (by rw [← HAt.out]; exact hn)]; rfl
                go_wp2_with (go_at_call 46; refine (HNB.out _).mono ?_; rintro e w' ⟨rfl, rfl⟩)
                go_loopg [6] (s.size - (k + 1)) (fun g i wr => ∃ q : Nat, k + 1 ≤ q ∧ q ≤ s.size ∧ s.size - q = g ∧ i = .int .i64 q ∧ runTo (fun c => nameB c false) s (k + 1) = runTo (fun c => nameB c false) s q ∧ wr = w')
                case atStart => exact ⟨k + 1, Nat.le_refl _, by omega, rfl, by go_num, rfl, rfl⟩
                case round =>
                  obtain ⟨q, hq1, hq2, hqg, rfl, hrun2, rfl⟩ := hrel
                  have HR2 := hide hrun2
                  have HG2 := hide hqg
                  clear hrun2 hqg
                  by_cases hqlt : q < s.size
                  · have HAq := hide (at_eq hqlt)
                    have HNQ := hide (fun W => nameByte_calls (s[q]).toNat false W (s[q]).toNat_lt)
                    by_cases hnq : nameB (s[q]).toNat false = true
                    · have HS2 := hide (runTo_step (f := fun c => nameB c false) hqlt (by rw [← HAq.out]; exact hnq))
                      go_wp2_with (go_at_call 46; refine (HNQ.out _).mono ?_; rintro e w2 ⟨rfl, rfl⟩)
                      go_roundg (s.size - (q + 1))
                      case measure => have := HG2.out; omega
                      case rel => exact ⟨q + 1, by omega, by omega, rfl, by go_num, HR2.out.trans HS2.out, rfl⟩
                    · have hnq' : nameB (s[q]).toNat false = false := by simpa using hnq
                      have HS2 := hide (HR2.out.trans (runTo_stop (f := fun c => nameB c false) (by rw [← HAq.out]; exact hnq')))
                      clear hnq
                      by_cases h40 : 40 < q - k
                      · go_wp2_with (go_at_call 46; refine (HNQ.out _).mono ?_; rintro e w2 ⟨rfl, rfl⟩)
                        go_ret3
                        refine ⟨?_, rfl⟩
                        rw [HT2.out, HS2.out, if_pos h40]
                        rfl
                      · go_wp2_with (go_at_call 46; refine (HNQ.out _).mono ?_; rintro e w2 ⟨rfl, rfl⟩)
                        go_ret3
                        refine ⟨?_, rfl⟩
                        rw [HT2.out, HS2.out, if_neg h40]
                        rfl
                  · have HS2 := hide (HR2.out.trans (runTo_end (f := fun c => nameB c false) (by omega)))
                    by_cases h40 : 40 < q - k
                    · go_wp2_with fail
                      go_ret3
                      refine ⟨?_, rfl⟩
                      rw [HT2.out, HS2.out, if_pos h40]
                      rfl
                    · go_wp2_with fail
                      go_ret3
                      refine ⟨?_, rfl⟩
                      rw [HT2.out, HS2.out, if_neg h40]
                      rfl
              · have hn' : nameB (s[k]).toNat true = false := by simpa using hn
                have HN' := hide hn'
                clear hn
                by_cases h35 : at_ s k = 35
                · have e6 : (((s[k]).toNat : Int) == 35) = true := by rw [HAt.out, h35]; rfl
                  have HT3 : Hid (tok s p = if runTo digitB s (k + 1) = k + 1 ∨ 5 < runTo digitB s (k + 1) - (k + 1) ∨ (1 < runTo digitB s (k + 1) - (k + 1) ∧ at_ s (k + 1) = 48) then ⟨⟨#[]⟩, k, false⟩ else ⟨s.extract k (runTo digitB s (k + 1)), k, true⟩) := HT.out.trans (tokAt_hash hA.out (by rw [← HAt.out]; exact HN'.out) h35)
                  clear h35
                  go_wp2_with (go_at_call 46; refine (HNB.out _).mono ?_; rintro e w' ⟨rfl, rfl⟩)
                  go_loopg [6] (s.size - (k + 1)) (fun g i wr => ∃ q : Nat, k + 1 ≤ q ∧ q ≤ s.size ∧ s.size - q = g ∧ i = .int .i64 q ∧ runTo digitB s (k + 1) = runTo digitB s q ∧ wr = w')
                  case atStart => exact ⟨k + 1, Nat.le_refl _, by omega, rfl, by go_num, rfl, rfl⟩
                  case round =>
                    obtain ⟨q, hq1, hq2, hqg, rfl, hrun2, rfl⟩ := hrel
                    have HR2 := hide hrun2
                    have HG2 := hide hqg
                    clear hrun2 hqg
                    by_cases hdq : q < s.size ∧ digitB (at_ s q) = true
                    · obtain ⟨hqlt, hdg⟩ := hdq
                      have hdg' : 48 ≤ (s[q]).toNat ∧ (s[q]).toNat ≤ 57 := by rw [at_eq hqlt]; simpa [digitB] using hdg
                      have HS2 := hide (runTo_step (f := digitB) hqlt hdg)
                      obtain ⟨g1, g2⟩ := hdg'
                      have g1' : (48 : Int) ≤ ((s[q]).toNat : Int) := by omega
                      have g2' : ((s[q]).toNat : Int) ≤ 57 := by omega
                      clear hdg g1 g2
                      go_wp2_with fail
                      go_roundg (s.size - (q + 1))
                      case measure => have := HG2.out; omega
                      case rel => exact ⟨q + 1, by omega, by omega, rfl, by go_num, HR2.out.trans HS2.out, rfl⟩
                    · have HS3 : Hid (runTo digitB s (k + 1) = q) := by
                        by_cases hqlt : q < s.size
                        · exact HR2.out.trans (runTo_stop (f := digitB) (by simpa using fun h => hdq ⟨hqlt, h⟩))
                        · exact HR2.out.trans (runTo_end (f := digitB) (by omega))
                      have HDQ := hide hdq
                      clear hdq
                      have hex : (¬ q < s.size) ∨ (∃ h : q < s.size, (48 : Int) ≤ ((s[q]).toNat : Int) ∧ ¬ ((s[q]).toNat : Int) ≤ 57) ∨ (∃ h : q < s.size, ¬ (48 : Int) ≤ ((s[q]).toNat : Int)) := by
                        by_cases hqlt : q < s.size
                        · have hd2 : ¬ (48 ≤ (s[q]).toNat ∧ (s[q]).toNat ≤ 57) := fun h => HDQ.out ⟨hqlt, by rw [← at_eq hqlt]; simpa [digitB] using h⟩
                          by_cases g1 : 48 ≤ (s[q]).toNat
                          · exact .inr (.inl ⟨hqlt, by omega, by omega⟩)
                          · exact .inr (.inr ⟨hqlt, by omega⟩)
                        · exact .inl hqlt
                      rcases hex with hqlt | ⟨hqlt, g1, g2⟩ | ⟨hqlt, g1⟩
                      all_goals
                        by_cases hqd : q = (k + 1)
                        · have e7 : ((q : Int) == (k : Int) + 1) = true := by simp; omega
                          have HF : Hid (tok s p = ⟨⟨#[]⟩, k, false⟩) := by rw [HT3.out, HS3.out, if_pos (.inl hqd)]; rfl
                          clear hqd
                          go_wp2_with fail
                          go_ret3
                          refine ⟨?_, rfl⟩
                          rw [HF.out]
                          rfl
                        · have e7 : ((q : Int) == (k : Int) + 1) = false := by simp; omega
                          by_cases h5 : 5 < q - (k + 1)
                          · have HF : Hid (tok s p = ⟨⟨#[]⟩, k, false⟩) := by rw [HT3.out, HS3.out, if_pos (.inr (.inl h5))]; rfl
                            go_wp2_with fail
                            go_ret3
                            refine ⟨?_, rfl⟩
                            rw [HF.out]
                            rfl
                          · by_cases h1 : 1 < q - (k + 1)
                            · have hdl : (k + 1) < s.size := by omega
                              by_cases h48 : at_ s ((k + 1)) = 48
                              · have HF : Hid (tok s p = ⟨⟨#[]⟩, k, false⟩) := by rw [HT3.out, HS3.out, if_pos (.inr (.inr ⟨h1, h48⟩))]; rfl
                                have e8 : (((s[(k + 1)]'hdl).toNat : Int) == 48) = true := by rw [at_eq hdl, h48]; rfl
                                clear h48
                                go_wp2_with fail
                                go_ret3
                                refine ⟨?_, rfl⟩
                                rw [HF.out]
                                rfl
                              · have HF : Hid (tok s p = ⟨s.extract k q, k, true⟩) := by rw [HT3.out, HS3.out, if_neg (by rintro (h | h | h); exact hqd h; exact h5 h; exact h48 h.2)]; rfl
                                have e8 : (((s[(k + 1)]'hdl).toNat : Int) == 48) = false := by rw [at_eq hdl]; simp; omega
                                clear h48
                                go_wp2_with fail
                                go_ret3
                                refine ⟨?_, rfl⟩
                                rw [HF.out]
                                rfl
                            · have HF : Hid (tok s p = ⟨s.extract k q, k, true⟩) := by rw [HT3.out, HS3.out, if_neg (by rintro (h | h | h); exact hqd h; exact h5 h; exact h1 h.1)]; rfl
                              go_wp2_with fail
                              go_ret3
                              refine ⟨?_, rfl⟩
                              rw [HF.out]
                              rfl
                · have e6 : (((s[k]).toNat : Int) == 35) = false := by rw [HAt.out]; simp; omega
                  by_cases hdk : digitB (at_ s k) = true
                  · have hdk' : 48 ≤ (s[k]).toNat ∧ (s[k]).toNat ≤ 57 := by rw [HAt.out]; simpa [digitB] using hdk
                    have HT3 : Hid (tok s p = if runTo digitB s (k + 1) = k ∨ 5 < runTo digitB s (k + 1) - k ∨ (1 < runTo digitB s (k + 1) - k ∧ at_ s k = 48) then ⟨⟨#[]⟩, k, false⟩ else ⟨s.extract k (runTo digitB s (k + 1)), k, true⟩) := HT.out.trans (tokAt_digit hA.out (by rw [← HAt.out]; exact HN'.out) h35 hdk)
                    have f1 : (48 : Int) ≤ ((s[k]).toNat : Int) := by omega
                    have f2 : ((s[k]).toNat : Int) ≤ 57 := by omega
                    clear hdk' hdk h35
                    go_wp2_with (go_at_call 46; refine (HNB.out _).mono ?_; rintro e w' ⟨rfl, rfl⟩)
                    go_loopg [6] (s.size - (k + 1)) (fun g i wr => ∃ q : Nat, k + 1 ≤ q ∧ q ≤ s.size ∧ s.size - q = g ∧ i = .int .i64 q ∧ runTo digitB s (k + 1) = runTo digitB s q ∧ wr = w')
                    case atStart => exact ⟨k + 1, Nat.le_refl _, by omega, rfl, by go_num, rfl, rfl⟩
                    case round =>
                      obtain ⟨q, hq1, hq2, hqg, rfl, hrun2, rfl⟩ := hrel
                      have HR2 := hide hrun2
                      have HG2 := hide hqg
                      clear hrun2 hqg
                      by_cases hdq : q < s.size ∧ digitB (at_ s q) = true
                      · obtain ⟨hqlt, hdg⟩ := hdq
                        have hdg' : 48 ≤ (s[q]).toNat ∧ (s[q]).toNat ≤ 57 := by rw [at_eq hqlt]; simpa [digitB] using hdg
                        have HS2 := hide (runTo_step (f := digitB) hqlt hdg)
                        obtain ⟨g1, g2⟩ := hdg'
                        have g1' : (48 : Int) ≤ ((s[q]).toNat : Int) := by omega
                        have g2' : ((s[q]).toNat : Int) ≤ 57 := by omega
                        clear hdg g1 g2
                        go_wp2_with fail
                        go_roundg (s.size - (q + 1))
                        case measure => have := HG2.out; omega
                        case rel => exact ⟨q + 1, by omega, by omega, rfl, by go_num, HR2.out.trans HS2.out, rfl⟩
                      · have HS3 : Hid (runTo digitB s (k + 1) = q) := by
                          by_cases hqlt : q < s.size
                          · exact HR2.out.trans (runTo_stop (f := digitB) (by simpa using fun h => hdq ⟨hqlt, h⟩))
                          · exact HR2.out.trans (runTo_end (f := digitB) (by omega))
                        have HDQ := hide hdq
                        clear hdq
                        have hex : (¬ q < s.size) ∨ (∃ h : q < s.size, (48 : Int) ≤ ((s[q]).toNat : Int) ∧ ¬ ((s[q]).toNat : Int) ≤ 57) ∨ (∃ h : q < s.size, ¬ (48 : Int) ≤ ((s[q]).toNat : Int)) := by
                          by_cases hqlt : q < s.size
                          · have hd2 : ¬ (48 ≤ (s[q]).toNat ∧ (s[q]).toNat ≤ 57) := fun h => HDQ.out ⟨hqlt, by rw [← at_eq hqlt]; simpa [digitB] using h⟩
                            by_cases g1 : 48 ≤ (s[q]).toNat
                            · exact .inr (.inl ⟨hqlt, by omega, by omega⟩)
                            · exact .inr (.inr ⟨hqlt, by omega⟩)
                          · exact .inl hqlt
                        rcases hex with hqlt | ⟨hqlt, g1, g2⟩ | ⟨hqlt, g1⟩
                        all_goals
                          by_cases hqd : q = k
                          · have e7 : ((q : Int) == (k : Int)) = true := by simp; omega
                            have HF : Hid (tok s p = ⟨⟨#[]⟩, k, false⟩) := by rw [HT3.out, HS3.out, if_pos (.inl hqd)]; rfl
                            clear hqd
                            go_wp2_with fail
                            go_ret3
                            refine ⟨?_, rfl⟩
                            rw [HF.out]
                            rfl
                          · have e7 : ((q : Int) == (k : Int)) = false := by simp; omega
                            by_cases h5 : 5 < q - k
                            · have HF : Hid (tok s p = ⟨⟨#[]⟩, k, false⟩) := by rw [HT3.out, HS3.out, if_pos (.inr (.inl h5))]; rfl
                              go_wp2_with fail
                              go_ret3
                              refine ⟨?_, rfl⟩
                              rw [HF.out]
                              rfl
                            · by_cases h1 : 1 < q - k
                              · have hdl : k < s.size := by omega
                                by_cases h48 : at_ s (k) = 48
                                · have HF : Hid (tok s p = ⟨⟨#[]⟩, k, false⟩) := by rw [HT3.out, HS3.out, if_pos (.inr (.inr ⟨h1, h48⟩))]; rfl
                                  have e8 : (((s[k]'hdl).toNat : Int) == 48) = true := by rw [at_eq hdl, h48]; rfl
                                  clear h48
                                  go_wp2_with fail
                                  go_ret3
                                  refine ⟨?_, rfl⟩
                                  rw [HF.out]
                                  rfl
                                · have HF : Hid (tok s p = ⟨s.extract k q, k, true⟩) := by rw [HT3.out, HS3.out, if_neg (by rintro (h | h | h); exact hqd h; exact h5 h; exact h48 h.2)]; rfl
                                  have e8 : (((s[k]'hdl).toNat : Int) == 48) = false := by rw [at_eq hdl]; simp; omega
                                  clear h48
                                  go_wp2_with fail
                                  go_ret3
                                  refine ⟨?_, rfl⟩
                                  rw [HF.out]
                                  rfl
                              · have HF : Hid (tok s p = ⟨s.extract k q, k, true⟩) := by rw [HT3.out, HS3.out, if_neg (by rintro (h | h | h); exact hqd h; exact h5 h; exact h1 h.1)]; rfl
                                go_wp2_with fail
                                go_ret3
                                refine ⟨?_, rfl⟩
                                rw [HF.out]
                                rfl
                  · have hdk' : ¬ (48 ≤ (s[k]).toNat ∧ (s[k]).toNat ≤ 57) := by rw [HAt.out]; simpa [digitB] using hdk
                    have HF : Hid (tok s p = ⟨⟨#[]⟩, k, false⟩) := by
                      rw [HT.out, tokAt, if_neg hA.out, if_neg (by rw [← HAt.out, HN'.out]; simp), if_neg (by rintro (h | h); exact h35 h; exact hdk h)]; rfl
                    clear hdk h35
                    by_cases f1 : (48 : Int) ≤ ((s[k]).toNat : Int)
                    · have f2 : ¬ ((s[k]).toNat : Int) ≤ 57 := by omega
                      clear hdk'
                      go_wp2_with (go_at_call 46; refine (HNB.out _).mono ?_; rintro e w' ⟨rfl, rfl⟩)
                      go_ret3
                      refine ⟨?_, rfl⟩
                      rw [HF.out]
                      rfl
                    · clear hdk'
                      go_wp2_with (go_at_call 46; refine (HNB.out _).mono ?_; rintro e w' ⟨rfl, rfl⟩)
                      go_ret3
                      refine ⟨?_, rfl⟩
                      rw [HF.out]
                      rfl
    · have hke : k = s.size := by omega
      have HT : Hid (tok s p = ⟨⟨#[]⟩, k, true⟩) := by
        have := HR.out.trans (runTo_end (f := blankB) (by omega))
        unfold Hid tok; rw [this, if_pos hke]
      have hkb : ((k : Int) == (s.size : Int)) = true := by simp [hke]
      clear hke
      go_wp2_with fail
      go_ret3
      refine ⟨?_, rfl⟩
      rw [HT.out]
      rfl

end Go.Proofs.YtpdoegjddiaaoaaDoor
