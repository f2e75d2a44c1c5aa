/- The contract of level at a successor. -/
import Derived.Test.YtpdoegjddiaaoaaDoorLevelBuilt
import Derived.Deep.DeepCutAuto
namespace Go.Proofs.YtpdoegjddiaaoaaDoor
open Go.RowKit

/-- What level leaves at 's': the result's block is filled last. -/
theorem fin1 {w wx w7 : World} {rb c p p0 p3 c3 p4 c4 a4 g cap' hi1 n1 cap1 : Nat} {s : ByteArray} {k1 : Int} {nm1 : ByteArray} {A1 : Option Addr} {u0 u1 u2 : Value} (hrb : rb < w.heap.size) (hc : w.heap.size + 1 ≤ c) (hp : p + 2 ≤ p0)
    (HO : wx.ownsRow (c + 1) 28 3 (.slice (some ⟨g, 0, none⟩) 1 cap') 1 [.int .i64 k1, .string nm1, .slice A1 n1 cap1]) (HT : Touched (w.alloc zlev) rb wx) (hh2 : hi1 ≤ g)
    (HI : c3 = 0 → ∃ l1 : LvB, InBet wx (c + 1) hi1 l1 (.agg #[.int .i64 k1, .string nm1, .slice A1 n1 cap1]) ∧ l1.nodes ≤ p3 - p0 ∧ ∀ q, Lv.has q l1 → Nm q)
    (HR7 : RdAt w7 rb s p4 c4 a4) (hp4 : p3 ≤ p4) (hp4' : p4 ≤ s.size) (hp3 : p0 ≤ p3) (HT7 : Touched wx rb w7) (HI7 : c4 = 0 → c3 = 0 ∧ p3 < p4) :
    LevelPost w rb s p 0 (.returned (.agg #[.int .i64 1, .string ⟨#[]⟩, .slice (some ⟨g, 0, none⟩) 1 cap'])) (((w7.setCell ⟨w.heap.size, 0, none⟩ u0).setCell ⟨w.heap.size, 1, none⟩ u1).setCell ⟨w.heap.size, 2, none⟩ u2) := by
  have hlt := HO.lt g rfl
  have hkeep : ∀ b, c + 1 ≤ b → b < wx.heap.size → (((w7.setCell ⟨w.heap.size, 0, none⟩ u0).setCell ⟨w.heap.size, 1, none⟩ u1).setCell ⟨w.heap.size, 2, none⟩ u2).heap[b]? = wx.heap[b]? := fun b h1 h2 => by
    rw [Below.heap_setCell _ _ _ _ (by show b ≠ w.heap.size; omega), Below.heap_setCell _ _ _ _ (by show b ≠ w.heap.size; omega), Below.heap_setCell _ _ _ _ (by show b ≠ w.heap.size; omega)]
    exact HT7.at h2 (by omega)
  refine ⟨1, ⟨#[]⟩, some ⟨g, 0, none⟩, 1, cap', p4, c4, a4, rfl, ?_, by omega, hp4', ?_, fun h => ?_⟩
  · exact ((HR7.setOther (b := ⟨w.heap.size, 0, none⟩) (by show w.heap.size ≠ rb; omega) _).setOther (b := ⟨w.heap.size, 1, none⟩) (by show w.heap.size ≠ rb; omega) _).setOther (b := ⟨w.heap.size, 2, none⟩) (by show w.heap.size ≠ rb; omega) _
  · exact ((((Touched.alloc w rb zlev).trans (HT.trans HT7)).setNew (a := ⟨w.heap.size, 0, none⟩) (Nat.le_refl _) _).setNew (a := ⟨w.heap.size, 1, none⟩) (Nat.le_refl _) _).setNew (a := ⟨w.heap.size, 2, none⟩) (Nat.le_refl _) _
  · obtain ⟨h3, h4⟩ := HI7 h
    obtain ⟨l1, hl, hn, hm⟩ := HI h3
    refine ⟨rfl, .succ l1, ⟨g, cap', _, rfl, by omega, (row_three HO (o := 0) rfl rfl rfl).of_block (hkeep g (by omega) hlt.2), InBet.above (by omega) (hl.keep fun b h1 h2 => hkeep b h1 (by omega))⟩, by simp only [Lv.nodes]; omega, hm⟩

set_option maxRecDepth 100000 in
set_option maxHeartbeats 4000000 in
theorem level_succ (N rb : Nat) (s : ByteArray) (p a : Nat) (w : World) (hs : s.size ≤ 20000) (hp : p ≤ s.size) (h : RdAt w rb s p 0 a) (ht : (tok s p).t = ⟨#[40]⟩)
    (h1 : (tok s ((tok s p).at_ + 1)).t = ⟨#[115]⟩) (hN : s.size - p < N + 1)
    (ih : ∀ (p code a : Nat) (w : World), s.size - p < N → p ≤ s.size → RdAt w rb s p code a → Calls Tryd.prog 13 #[.pointer (some ⟨rb, 0, none⟩)] w fun e w' => LevelPost w rb s p code e w') :
    Calls Tryd.prog 13 #[.pointer (some ⟨rb, 0, none⟩)] w fun e w' => LevelPost w rb s p 0 e w' := by
  have hal := h.alloc zlev
  have hrb := h.lt
  have HT := hide (token_calls s p rb _ hs hp hal.c0 hal.c1)
  obtain ⟨k1, k2, k3, k4⟩ := tok_facts hp
  have HN := hide (fun W => isName_calls (tok s p).t W (by omega))
  have HX := hide (next_calls rb s p a _ hs hp hal (by rw [ht]; intro e; cases e))
  rw [ht] at HT HN k2 HX
  rw [isNameB_open] at HN
  have k2' : (tok s p).at_ + 1 ≤ s.size := k2
  have HX2 : Hid (Calls Tryd.prog 28 #[.pointer (some ⟨rb, 0, none⟩)] (w.alloc zlev) fun e w' => e = .returned (.string ⟨#[40]⟩) ∧ RdAt w' rb s ((tok s p).at_ + 1) 0 a ∧ Touched (w.alloc zlev) rb w') := HX.out
  have c2 := h.c2
  obtain ⟨j1, j2, j3, j4⟩ := tok_facts k2'
  have HT2 := hide (fun W (hW : RdAt W rb s ((tok s p).at_ + 1) 0 a) => token_calls s ((tok s p).at_ + 1) rb W hs k2' hW.c0 hW.c1)
  have HX3 := hide (fun W (hW : RdAt W rb s ((tok s p).at_ + 1) 0 a) => next_calls rb s ((tok s p).at_ + 1) a W hs k2' hW (by rw [h1]; intro e; cases e))
  rw [h1] at HT2 HX3 j2
  have j2' : (tok s ((tok s p).at_ + 1)).at_ + 1 ≤ s.size := j2
  have HX4 : Hid (∀ W, RdAt W rb s ((tok s p).at_ + 1) 0 a → Calls Tryd.prog 28 #[.pointer (some ⟨rb, 0, none⟩)] W fun e w' => e = .returned (.string ⟨#[115]⟩) ∧ RdAt w' rb s ((tok s ((tok s p).at_ + 1)).at_ + 1) 0 a ∧ Touched W rb w') := HX3.out
  clear h hal k2 k3 k4 ht HX h1 j2 j3 j4 HX3
  generalize (tok s ((tok s p).at_ + 1)).at_ = jj at *
  generalize (tok s ((tok s p).at_ + 1)).ok = o1 at *
  generalize (tok s p).at_ = k at *
  generalize (tok s p).ok = ok at *
  have HI := hide (fun p code a w h1 h2 h3 => ih p code a w h1 h2 h3)
  obtain ⟨i0, hi, hz0, hz1, hz2⟩ := info_parts Tryd.info28
  clear ih
  go_enter Tryd.func13, Tryd.ntmps13
  go_wp2_with (first
    | (go_at_call 26; refine HT.out.mono ?_; rintro e w' ⟨rfl, rfl⟩)
    | (go_at_call 27; refine (HN.out _).mono ?_; rintro e w' ⟨rfl, rfl⟩)
    | (go_at_call 28; refine HX2.out.mono ?_))
  rintro e w' ⟨rfl, hr, ht⟩
  have HR := hide hr
  have HTo := hide ht
  clear hr ht HX2 HT HN
  go_wp2_with (first
    | (go_at_call 26; refine (HT2.out _ HR.out).mono ?_; rintro e w2 ⟨rfl, rfl⟩)
    | (go_at_call 28; refine (HX4.out _ HR.out).mono ?_))
  rintro e w3 ⟨rfl, hr3, ht3⟩
  have HR3 := hide hr3
  have HT3 := hide (HTo.out.trans ht3)
  have hz3 := HT3.out.size
  simp at hz3
  have HV : Hid (LVar (w3.alloc (.cells #[.int .i64 1, .string ⟨#[]⟩, .slice none 0 0] 28)) w3.heap.size 1 (.slice none 0 0)) := by
    unfold Hid LVar; exact heap_alloc_new w3 _
  have HR4 := hide (hr3.alloc (.cells #[.int .i64 1, .string ⟨#[]⟩, .slice none 0 0] 28))
  have HT4 := hide (HT3.out.trans (Touched.alloc w3 rb (.cells #[.int .i64 1, .string ⟨#[]⟩, .slice none 0 0] 28)))
  clear hr3 ht3 HTo HR HT2 HX4 HR3 HT3
  go_upto_region 26 with fail
  generalize hW4 : w3.alloc (.cells #[.int .i64 1, .string ⟨#[]⟩, .slice none 0 0] 28) = W4 at *
  have hz4 : W4.heap.size = w3.heap.size + 1 := by rw [← hW4]; simp
  clear hW4
  have hc1 : w.heap.size + 1 ≤ w3.heap.size := hz3
  go_cut [] (fun wx => Built1 w rb s w3.heap.size 1 (jj + 1) wx)
  case first =>
    have q0 := HV.out.c0
    have q1 := HV.out.c1
    have q2 := HV.out.c2
    have q3 := HV.out.f 2
    go_region_law (first
      | (refine step_call (args := #[.pointer (some ⟨rb, 0, none⟩)]) (rb := rb) (s := s) (p := jj + 1) (code := 0) rfl ?_ ?_ ?_
         · simp [go_sem]
         · exact HI.out _ _ a _ (by omega) (by omega) HR4.out
         intro k1 nm1 A1 n1 cap1 w5 p3 c3 a3 hr5 hp3 hp3' ht5 himp
         replace ht5 := Touched.undrew ht5
         have hz5 : w3.heap.size + 1 ≤ w5.heap.size := Nat.le_trans (Nat.le_of_eq hz4.symm) ht5.size
         have hV5 : LVar w5 w3.heap.size 1 (.slice none 0 0) := HV.out.of_block (Touched.at ht5 (by show w3.heap.size < W4.heap.size; omega) (by omega))
         have v0 := hV5.c0
         have v1 := hV5.c1
         have v2 := hV5.c2
         have v3 := hV5.f 2
         have hlt5 : w3.heap.size < w5.heap.size := by omega
         have HV5 := hide hV5
         have HR5 := hide hr5
         have HT5 : Hid (Touched W4 rb w5) := ht5
         have HIm := hide himp
         clear hr5 ht5 himp hV5)
      | (refine step_append_own rfl (.tmp 70) (.tmp 73) 26 rfl (w3.heap.size + 1) 28 i0 _ 3 48 Tryd.underlying26 hi hz0 hz1 hz2 rfl (by decide) (.slice none 0 0) 0 [] ?_ (World.ownsRow_nil _ _ _ _) ⟨w5.heap.size, 0, none⟩ 1 1 [.int .i64 k1, .string nm1, .slice A1 n1 cap1] ?_ rfl ?_ ?_ (by decide) (by unfold maxLen; omega) (by omega) ?_ ?_
         · rfl
         · rfl
         · exact three_new _ _ _ _ _
         · intro u hu; simp at hu; rcases hu with rfl | rfl | rfl <;> rfl
         · show w3.heap.size + 1 ≤ (w5.alloc _).heap.size; simp; omega
         intro v' w6 hown6 hgr6 hpl6
         obtain ⟨g, cap', rfl, hgb⟩ := shape_row hown6 (by omega)
         have hV6 : LVar w6 w3.heap.size 1 (.slice none 0 0) := (HV5.out.alloc (.cells #[.int .i64 k1, .string nm1, .slice A1 n1 cap1] 28)).of_block (hgr6.block w3.heap.size (by simp; omega) (by simp [Value.ownBlock]))
         have u2 := hV6.c2
         have u3 := hV6.f 2
         have HV6 := hide hV6
         have HO6 := hide hown6
         have HG6 := hide hgr6
         have HP6 := hide hpl6
         clear hown6 hgr6 hpl6 hV6))
    all_goals
      go_wp2_with fail
      go_meet
      case rel => exact built1_of hrb hc1 hz4 HT4.out HT5.out HR5.out hp3 hp3' (fun h => ⟨rfl, (HIm.out h).2⟩) HV6.out HO6.out HG6.out HP6.out
  case rest =>
    obtain ⟨k1, nm1, A1, n1, cap1, p3, c3, a3, g, cap', hi1, hV, hO, hR, hp3, hp3', hT, hh1, hh2, hIm⟩ := hcut
    have HTk := hide (take_any rb s p3 c3 a3 wc hs hp3' hR)
    have hlt := hV.lt
    have HVx := hide hV
    have HOx := hide hO
    have HTx := hide hT
    have HIx := hide hIm
    clear hV hO hR hT hIm HR4 HT4 HV HI hz4
    go_wp2_with (go_at_call 30; refine HTk.out.mono ?_)
    rintro e w7 ⟨p4, c4, a4, rfl, hr7, hp4, hp4', ht7, him7⟩
    have hV7 := HVx.out.of_block (Touched.at ht7 hlt (by omega))
    have v0 := hV7.c0
    have v1 := hV7.c1
    have v2 := hV7.c2
    obtain ⟨d4, d5, d6, f4, hz7⟩ := zcells hrb (HTx.out.trans ht7)
    have HR7 := hide hr7
    have HT7 := hide ht7
    have HI7 := hide him7
    clear hr7 ht7 him7 hV7 HTk
    go_wp2_with fail
    refine bodyPost_ret (v := .agg #[.int .i64 1, .string ⟨#[]⟩, .slice (some ⟨g, 0, none⟩) 1 cap']) (by simp [results, Tryd.results13, go_sem, d4, d5, d6]) rfl ?_
    exact fin1 hrb hc1 (by omega) HOx.out HTx.out hh2 HIx.out HR7.out hp4 hp4' hp3 HT7.out HI7.out

end Go.Proofs.YtpdoegjddiaaoaaDoor
