/- The contract of level at a name, at a token that cannot stand there, and at a bracket with another word. -/
import Derived.Test.YtpdoegjddiaaoaaDoorLevelEasy
import Derived.Test.YtpdoegjddiaaoaaDoorAppend
import Derived.Deep.RegionLaw
namespace Go.Proofs.YtpdoegjddiaaoaaDoor
open Go.RowKit

theorem isNameB_ne {t : ByteArray} (h : isNameB t = true) : t ≠ ⟨#[]⟩ := by
  intro e; subst e; simp [isNameB] at h

theorem size_pos {t : ByteArray} (h : t ≠ ⟨#[]⟩) : 0 < t.size := by
  rcases Nat.eq_zero_or_pos t.size with h' | h'
  · exact absurd (by cases t; rename_i d; simp [ByteArray.size] at h'; rw [h']) h
  · exact h'

set_option maxHeartbeats 1000000 in
theorem level_name (rb : Nat) (s : ByteArray) (p a : Nat) (w : World) (hs : s.size ≤ 20000) (hp : p ≤ s.size) (h : RdAt w rb s p 0 a) (h0 : (tok s p).t ≠ ⟨#[48]⟩) (hn : isNameB (tok s p).t = true) :
    Calls Tryd.prog 13 #[.pointer (some ⟨rb, 0, none⟩)] w fun e w' => LevelPost w rb s p 0 e w' := by
  have HNm := hide (tok_name hp hn)
  have hal := h.alloc zlev
  have hrb := h.lt
  have HT := hide (token_calls s p rb _ hs hp hal.c0 hal.c1)
  obtain ⟨k1, k2, k3, k4⟩ := tok_facts hp
  have HN := hide (fun W => isName_calls (tok s p).t W (by omega))
  have HX := hide (next_calls rb s p a _ hs hp hal (isNameB_ne hn))
  have hps := size_pos (isNameB_ne hn)
  have hb := sameLit_neg (l := [48]) h0
  rw [hn] at HN
  have HK := hide (And.intro k1 (And.intro k2 (And.intro k3 hps)))
  have c2 := h.c2
  clear h hal k1 k2 k3 k4 h0 hn hps
  generalize (tok s p).t = t at *
  generalize (tok s p).at_ = k at *
  generalize (tok s p).ok = ok at *
  go_enter Tryd.func13, Tryd.ntmps13
  go_wp2_with (first
    | (go_at_call 26; refine HT.out.mono ?_; rintro e w' ⟨rfl, rfl⟩)
    | (go_at_call 27; refine (HN.out _).mono ?_; rintro e w' ⟨rfl, rfl⟩)
    | (go_at_call 28; refine HX.out.mono ?_))
  rintro e w' ⟨rfl, hr, ht⟩
  have hz := ht.size
  have hblk := ht.block w.heap.size (by simp) (by simp; omega)
  have d4 : w'.cell? ⟨w.heap.size, 0, none⟩ = some (.int .i64 0) := by rw [World.cell?_of_block hblk]; simp
  have d5 : w'.cell? ⟨w.heap.size, 1, none⟩ = some (.string ⟨#[]⟩) := by rw [World.cell?_of_block hblk]; simp
  have d6 : w'.cell? ⟨w.heap.size, 2, none⟩ = some (.slice none 0 0) := by rw [World.cell?_of_block hblk]; simp
  have f4 : ∀ i, w'.frozen? ⟨w.heap.size, i, none⟩ = false := fun i => by rw [World.frozen?_of_block hblk]; simp [World.frozen?_alloc_at]
  simp at hz
  have HR := hide hr
  have HTo := hide ((Touched.alloc w rb zlev).trans ht)
  clear hr ht hblk
  go_wp2_with fail
  refine bodyPost_ret (v := .agg #[.int .i64 4, .string t, .slice none 0 0]) (by simp [results, Tryd.results13, go_sem, d4, d5, d6]) rfl ?_
  obtain ⟨k1, k2, k3, hps⟩ := HK.out
  refine ⟨4, t, none, 0, 0, k + t.size, 0, a, rfl, ?_, by omega, k2, ?_, fun _ => ⟨rfl, .param t, rfl, by simp [Lv.nodes]; omega, fun q hq => by cases hq; exact HNm.out⟩⟩
  · exact ((HR.out.setOther (b := ⟨w.heap.size, 0, none⟩) (by show w.heap.size ≠ rb; omega) _).setOther (b := ⟨w.heap.size, 1, none⟩) (by show w.heap.size ≠ rb; omega) _).setOther (b := ⟨w.heap.size, 2, none⟩) (by show w.heap.size ≠ rb; omega) _
  · exact ((HTo.out.setNew (a := ⟨w.heap.size, 0, none⟩) (Nat.le_refl _) _).setNew (a := ⟨w.heap.size, 1, none⟩) (Nat.le_refl _) _).setNew (a := ⟨w.heap.size, 2, none⟩) (Nat.le_refl _) _

set_option maxHeartbeats 1000000 in
theorem level_bad (rb : Nat) (s : ByteArray) (p a : Nat) (w : World) (hs : s.size ≤ 20000) (hp : p ≤ s.size) (h : RdAt w rb s p 0 a) (h0 : (tok s p).t ≠ ⟨#[48]⟩) (hn : isNameB (tok s p).t = false) (h1 : (tok s p).t ≠ ⟨#[40]⟩) :
    Calls Tryd.prog 13 #[.pointer (some ⟨rb, 0, none⟩)] w fun e w' => LevelPost w rb s p 0 e w' := by
  have hal := h.alloc zlev
  have hrb := h.lt
  have HT := hide (token_calls s p rb _ hs hp hal.c0 hal.c1)
  obtain ⟨k1, k2, k3, k4⟩ := tok_facts hp
  have HN := hide (fun W => isName_calls (tok s p).t W (by omega))
  have HX := hide (fun b => fail_zero rb s p a b _ hal)
  have hb := sameLit_neg (l := [48]) h0
  have hb1 := sameLit_neg (l := [40]) h1
  rw [hn] at HN
  have c2 := h.c2
  clear h hal k1 k2 k3 k4 h0 hn h1
  generalize (tok s p).t = t at *
  generalize (tok s p).at_ = k at *
  generalize (tok s p).ok = ok at *
  go_enter Tryd.func13, Tryd.ntmps13
  go_wp2_with (first
    | (go_at_call 26; refine HT.out.mono ?_; rintro e w' ⟨rfl, rfl⟩)
    | (go_at_call 27; refine (HN.out _).mono ?_; rintro e w' ⟨rfl, rfl⟩)
    | (go_at_call 29; refine (HX.out _).mono ?_))
  rintro e w' ⟨rfl, hr, ht⟩
  have hz := ht.size
  have hblk := ht.block w.heap.size (by simp) (by simp; omega)
  have d4 : w'.cell? ⟨w.heap.size, 0, none⟩ = some (.int .i64 0) := by rw [World.cell?_of_block hblk]; simp
  have d5 : w'.cell? ⟨w.heap.size, 1, none⟩ = some (.string ⟨#[]⟩) := by rw [World.cell?_of_block hblk]; simp
  have d6 : w'.cell? ⟨w.heap.size, 2, none⟩ = some (.slice none 0 0) := by rw [World.cell?_of_block hblk]; simp
  have f4 : ∀ i, w'.frozen? ⟨w.heap.size, i, none⟩ = false := fun i => by rw [World.frozen?_of_block hblk]; simp [World.frozen?_alloc_at]
  simp at hz
  have HR := hide hr
  have HTo := hide ((Touched.alloc w rb zlev).trans ht)
  clear hr ht hblk
  go_wp2_with fail
  refine bodyPost_ret (v := .agg #[.int .i64 0, .string ⟨#[]⟩, .slice none 0 0]) (by simp [results, Tryd.results13, go_sem, d4, d5, d6]) rfl ?_
  refine ⟨0, ⟨#[]⟩, none, 0, 0, p, 1, k, rfl, ?_, Nat.le_refl _, hp, ?_, fun h => by omega⟩
  · exact ((HR.out.setOther (b := ⟨w.heap.size, 0, none⟩) (by show w.heap.size ≠ rb; omega) _).setOther (b := ⟨w.heap.size, 1, none⟩) (by show w.heap.size ≠ rb; omega) _).setOther (b := ⟨w.heap.size, 2, none⟩) (by show w.heap.size ≠ rb; omega) _
  · exact ((HTo.out.setNew (a := ⟨w.heap.size, 0, none⟩) (Nat.le_refl _) _).setNew (a := ⟨w.heap.size, 1, none⟩) (Nat.le_refl _) _).setNew (a := ⟨w.heap.size, 2, none⟩) (Nat.le_refl _) _

theorem isNameB_open : isNameB ⟨#[40]⟩ = false := by decide

/-- What stands at the result's block behind calls that leave it alone. -/
theorem zcells {w w' : World} {rb : Nat} (hrb : rb < w.heap.size) (ht : Touched (w.alloc zlev) rb w') : w'.cell? ⟨w.heap.size, 0, none⟩ = some (.int .i64 0) ∧ w'.cell? ⟨w.heap.size, 1, none⟩ = some (.string ⟨#[]⟩) ∧ w'.cell? ⟨w.heap.size, 2, none⟩ = some (.slice none 0 0) ∧ (∀ i, w'.frozen? ⟨w.heap.size, i, none⟩ = false) ∧ w.heap.size + 1 ≤ w'.heap.size := by
  have hblk := ht.block w.heap.size (by simp) (by simp; omega)
  refine ⟨by rw [World.cell?_of_block hblk]; simp, by rw [World.cell?_of_block hblk]; simp, by rw [World.cell?_of_block hblk]; simp, fun i => by rw [World.frozen?_of_block hblk]; simp [World.frozen?_alloc_at], ?_⟩
  have := ht.size
  simpa using this

set_option maxHeartbeats 1000000 in
theorem level_word (rb : Nat) (s : ByteArray) (p a : Nat) (w : World) (hs : s.size ≤ 20000) (hp : p ≤ s.size) (h : RdAt w rb s p 0 a) (ht : (tok s p).t = ⟨#[40]⟩)
    (h1 : (tok s ((tok s p).at_ + 1)).t ≠ ⟨#[115]⟩) (h2 : (tok s ((tok s p).at_ + 1)).t ≠ ⟨#[109, 97, 120]⟩) (h3 : (tok s ((tok s p).at_ + 1)).t ≠ ⟨#[105, 109, 97, 120]⟩) :
    Calls Tryd.prog 13 #[.pointer (some ⟨rb, 0, none⟩)] w fun e w' => LevelPost w rb s p 0 e w' := by
  have hal := h.alloc zlev
  have hrb := h.lt
  have HT := hide (token_calls s p rb _ hs hp hal.c0 hal.c1)
  obtain ⟨k1, k2, k3, k4⟩ := tok_facts hp
  have HN := hide (fun W => isName_calls (tok s p).t W (by omega))
  have HX := hide (next_calls rb s p a _ hs hp hal (by rw [ht]; intro e; cases e))
  rw [ht] at HT HN k2 HX
  rw [isNameB_open] at HN
  have k2' : (tok s p).at_ + 1 ≤ s.size := k2
  have HX2 : Hid (Calls Tryd.prog 28 #[.pointer (some ⟨rb, 0, none⟩)] (w.alloc zlev) fun e w' => e = .returned (.string ⟨#[40]⟩) ∧ RdAt w' rb s ((tok s p).at_ + 1) 0 a ∧ Touched (w.alloc zlev) rb w') := HX.out
  have HK := hide k1
  have c2 := h.c2
  have HT2 := hide (fun W (hW : RdAt W rb s ((tok s p).at_ + 1) 0 a) => token_calls s ((tok s p).at_ + 1) rb W hs k2' hW.c0 hW.c1)
  have b1 := sameLit_neg (l := [115]) h1
  have b2 := sameLit_neg (l := [109, 97, 120]) h2
  have b3 := sameLit_neg (l := [105, 109, 97, 120]) h3
  clear h hal k1 k2 k3 k4 ht HX h1 h2 h3
  generalize (tok s ((tok s p).at_ + 1)).t = t1 at *
  generalize (tok s ((tok s p).at_ + 1)).at_ = j1 at *
  generalize (tok s ((tok s p).at_ + 1)).ok = o1 at *
  generalize (tok s p).at_ = k at *
  generalize (tok s p).ok = ok at *
  go_enter Tryd.func13, Tryd.ntmps13
  go_wp2_with (first
    | (go_at_call 26; refine HT.out.mono ?_; rintro e w' ⟨rfl, rfl⟩)
    | (go_at_call 27; refine (HN.out _).mono ?_; rintro e w' ⟨rfl, rfl⟩)
    | (go_at_call 28; refine HX2.out.mono ?_))
  rintro e w' ⟨rfl, hr, ht⟩
  have HR := hide hr
  have HTo := hide ht
  have HF := hide (fun b => fail_zero rb s (k + 1) a b w' hr)
  clear hr ht
  go_wp2_with (first
    | (go_at_call 26; refine (HT2.out _ HR.out).mono ?_; rintro e w2 ⟨rfl, rfl⟩)
    | (go_at_call 29; refine (HF.out _).mono ?_))
  rintro e w3 ⟨rfl, hr3, ht3⟩
  have HT3 := hide (HTo.out.trans ht3)
  obtain ⟨d4, d5, d6, f4, hz⟩ := zcells hrb HT3.out
  have HR3 := hide hr3
  clear hr3 ht3
  go_wp2_with fail
  refine bodyPost_ret (v := .agg #[.int .i64 0, .string ⟨#[]⟩, .slice none 0 0]) (by simp [results, Tryd.results13, go_sem, d4, d5, d6]) rfl ?_
  refine ⟨0, ⟨#[]⟩, none, 0, 0, k + 1, 1, j1, rfl, ?_, by have := HK.out; omega, k2', ?_, fun h => by omega⟩
  · exact ((HR3.out.setOther (b := ⟨w.heap.size, 0, none⟩) (by show w.heap.size ≠ rb; omega) _).setOther (b := ⟨w.heap.size, 1, none⟩) (by show w.heap.size ≠ rb; omega) _).setOther (b := ⟨w.heap.size, 2, none⟩) (by show w.heap.size ≠ rb; omega) _
  · exact ((((Touched.alloc w rb zlev).trans HT3.out).setNew (a := ⟨w.heap.size, 0, none⟩) (Nat.le_refl _) _).setNew (a := ⟨w.heap.size, 1, none⟩) (Nat.le_refl _) _).setNew (a := ⟨w.heap.size, 2, none⟩) (Nat.le_refl _) _

end Go.Proofs.YtpdoegjddiaaoaaDoor
