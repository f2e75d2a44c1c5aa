/- The contract of WriteLevel: a level's text is laid behind what the builder holds. -/
import Derived.Test.YtpdoegjddiaaoaaDoorText
import Derived.Test.YtpdoegjddiaaoaaDoorBld
import Derived.Deep.LoopGhost
import Derived.Test.YtpdoegjddiaaoaaDoorGates
namespace Go.Proofs.YtpdoegjddiaaoaaDoor
open Go.RowKit

/-- The words of the table of shapes, as they are laid. -/
structure Table (w : World) : Prop where
  t0 : w.cell? ⟨0, 0, none⟩ = some (.string ⟨#[]⟩)
  t1 : w.cell? ⟨0, 2, none⟩ = some (.string ⟨#[115]⟩)
  t2 : w.cell? ⟨0, 4, none⟩ = some (.string ⟨#[109, 97, 120]⟩)
  t3 : w.cell? ⟨0, 6, none⟩ = some (.string ⟨#[105, 109, 97, 120]⟩)
  t4 : w.cell? ⟨0, 8, none⟩ = some (.string ⟨#[]⟩)

theorem Table.below {w w' : World} {b : Nat} (h : Table w) (hb : Below b w w') (h0 : 0 < b) : Table w' :=
  ⟨(hb.cell h0).trans h.t0, (hb.cell h0).trans h.t1, (hb.cell h0).trans h.t2, (hb.cell h0).trans h.t3, (hb.cell h0).trans h.t4⟩

theorem Holds.lt {w : World} {b : Nat} {l : List UInt8} (h : Holds w b l) : b < w.heap.size := by
  rcases h with h | h <;> exact h.lt

theorem Holds.alloc {w : World} {b : Nat} {l : List UInt8} (h : Holds w b l) (o : Obj) : Holds (w.alloc o) b l := Lib.IsBuilderF.alloc h o

set_option maxHeartbeats 2000000 in
theorem write_zero (b : Nat) (acc : List UInt8) (w : World) (h : Holds w b acc) (hl : acc.length ≤ 1000000000000) (ht : Table w) :
    Calls Tryd.prog 22 #[.pointer (some ⟨b, 0, none⟩), .agg #[.int .i64 0, .string ⟨#[]⟩, .slice none 0 0]] w fun e w' => e = .returned (.tuple #[]) ∧ Holds w' b (acc ++ [48]) ∧ Wrote b w w' := by
  have hb := h.lt
  have HB := hide (writeByte_calls b acc 48 _ (h.alloc (.cells #[.int .i64 0, .string ⟨#[]⟩, .slice none 0 0] 28)) hl (by simp; omega))
  have t0 := ht.t0
  have h0 : 0 < w.heap.size := by omega
  clear h ht
  go_enter Tryd.func22, Tryd.ntmps22
  go_wp2_with (go_at_call 39; refine HB.out.mono ?_)
  rintro e w' ⟨rfl, hh, hw⟩
  have HH := hide hh
  have HW := hide ((Wrote.alloc _ (by omega)).trans hw)
  clear hh hw
  go_wp2_with fail
  go_end0
  exact ⟨rfl, HH.out, HW.out⟩

set_option maxHeartbeats 2000000 in
theorem write_param (b : Nat) (acc : List UInt8) (p : ByteArray) (w : World) (h : Holds w b acc) (hl : acc.length ≤ 1000000000000) (hp : p.size ≤ 1000000) (ht : Table w) :
    Calls Tryd.prog 22 #[.pointer (some ⟨b, 0, none⟩), .agg #[.int .i64 4, .string p, .slice none 0 0]] w fun e w' => e = .returned (.tuple #[]) ∧ Holds w' b (acc ++ p.data.toList) ∧ Wrote b w w' := by
  have hb := h.lt
  have HB := hide (writeString_calls b acc p _ (h.alloc (.cells #[.int .i64 4, .string p, .slice none 0 0] 28)) hl hp (by simp; omega))
  have t0 := ht.t4
  have h0 : 0 < w.heap.size := by omega
  clear h ht
  go_enter Tryd.func22, Tryd.ntmps22
  go_wp2_with (go_at_call 38; refine HB.out.mono ?_)
  rintro e w' ⟨rfl, hh, hw⟩
  have HH := hide hh
  have HW := hide ((Wrote.alloc _ (by omega)).trans hw)
  clear hh hw
  go_wp2_with fail
  go_end0
  exact ⟨rfl, HH.out, HW.out⟩

/-- A builder that holds so much, and what was there. -/
structure Step (w : World) (b : Nat) (acc : List UInt8) (W : World) : Prop where
  holds : Holds W b acc
  wrote : Wrote b w W
theorem Step.then {w W W' : World} {b : Nat} {acc acc' : List UInt8} (h : Step w b acc W) (hh : Holds W' b acc') (hw : Wrote b W W') : Step w b acc' W' := ⟨hh, h.wrote.trans hw⟩
theorem Step.alloc {w W : World} {b : Nat} {acc : List UInt8} (h : Step w b acc W) (o : Obj) : Step w b acc (W.alloc o) := ⟨h.holds.alloc o, h.wrote.trans (Wrote.alloc o (Nat.le_of_lt h.holds.lt))⟩

theorem step_byte {w : World} {b : Nat} {acc : List UInt8} (c : UInt8) (W : World) (h : Step w b acc W) (hl : acc.length ≤ 1000000000000) :
    Calls Tryd.prog 39 #[.pointer (some ⟨b, 0, none⟩), .int .u8 (c.toNat : Int)] W fun e w' => e = .returned .nilIface ∧ Hid (Step w b (acc ++ [c]) w' ∧ Wrote b W w') :=
  (writeByte_calls b acc c W h.holds hl (Nat.le_of_lt h.holds.lt)).mono fun _ _ ⟨he, hh, hw⟩ => ⟨he, h.then hh hw, hw⟩

theorem step_string {w : World} {b : Nat} {acc : List UInt8} (s : ByteArray) (W : World) (h : Step w b acc W) (hl : acc.length ≤ 1000000000000) (hs : s.size ≤ 1000000) :
    Calls Tryd.prog 38 #[.pointer (some ⟨b, 0, none⟩), .string s] W fun e w' => e = .returned (.tuple #[.int .i64 s.size, .nilIface]) ∧ Hid (Step w b (acc ++ s.data.toList) w' ∧ Wrote b W w') :=
  (writeString_calls b acc s W h.holds hl hs (Nat.le_of_lt h.holds.lt)).mono fun _ _ ⟨he, hh, hw⟩ => ⟨he, h.then hh hw, hw⟩

set_option maxHeartbeats 4000000 in
theorem write_node (kd : Int) (wd : List UInt8) (hkd : (kd = 1 ∧ wd = [115]) ∨ (kd = 2 ∧ wd = [109, 97, 120]) ∨ (kd = 3 ∧ wd = [105, 109, 97, 120])) (l : LvB) (A : Option Addr) (cap b B : Nat) (acc : List UInt8) (w : World)
    (hB : B ≤ b) (h0 : 0 < b) (h : Holds w b acc) (T : Nat) (hT : T = 2 + wd.length + (l.kidsText l.kids.length).length) (hl : acc.length + T ≤ 100000000000) (ht : Table w)
    (hk : ∀ i (hi : i < l.kids.length), ∃ b' x, A = some ⟨b', 0, none⟩ ∧ b' < B ∧ Three w b' (i * 3) x ∧ InLv w B l.kids[i] x)
    (ih : ∀ k (hk : k < l.kids.length) (v : Value) (acc' : List UInt8) (W : World), InLv W B l.kids[k] v → Holds W b acc' → acc'.length + (Lv.text l.kids[k]).length ≤ acc.length + T → Table W → Calls Tryd.prog 22 #[.pointer (some ⟨b, 0, none⟩), v] W fun e w' => e = .returned (.tuple #[]) ∧ Holds w' b (acc' ++ Lv.text l.kids[k]) ∧ Wrote b W w') :
    Calls Tryd.prog 22 #[.pointer (some ⟨b, 0, none⟩), .agg #[.int .i64 kd, .string ⟨#[]⟩, .slice A l.kids.length cap]] w fun e w' => e = .returned (.tuple #[]) ∧ Holds w' b (acc ++ ([40] ++ wd ++ l.kidsText l.kids.length ++ [41])) ∧ Wrote b w w' := by
  have hb := h.lt
  have h00 : 0 < w.heap.size := by omega
  have hk2 := l.kids_le
  have HKL := hide l.kidsText_le
  have HK := hide hk
  have IH := hide ih
  have HT := hide ht
  have t1 := ht.t1
  have t2 := ht.t2
  have t3 := ht.t3
  have H0 := hide (Step.alloc ⟨h, Wrote.refl b w⟩ (.cells #[.int .i64 kd, .string ⟨#[]⟩, .slice A l.kids.length cap] 28))
  have HX := hide (heap_alloc_new w (.cells #[.int .i64 kd, .string ⟨#[]⟩, .slice A l.kids.length cap] 28))
  clear hk ih h ht
  have hwl : wd.length ≤ 4 := by rcases hkd with ⟨_, rfl⟩ | ⟨_, rfl⟩ | ⟨_, rfl⟩ <;> decide
  rcases hkd with ⟨rfl, hwd⟩ | ⟨rfl, hwd⟩ | ⟨rfl, hwd⟩
  all_goals
    go_enter Tryd.func22, Tryd.ntmps22
    go_wp2_with (go_at_call 39; refine (step_byte 40 _ H0.out (by omega)).mono ?_)
    rintro e w1 ⟨rfl, H1⟩
    go_wp2_with (go_at_call 38; refine (step_string _ _ H1.out.1 (by simp; omega) (by decide)).mono ?_)
    intro e w2 he H2
    subst he
    have HX2 := hide (H2.out.2.box (H1.out.2.box HX.out (by omega)) (by omega))
    obtain ⟨g0, g1, g2⟩ := box_cells HX2.out
    have HS : Hid (Step w b (acc ++ [40] ++ wd ++ l.kidsText 0) w2) := by have h9 := H2.out.1; rw [hwd]; simpa [Hid, Lv.kidsText] using h9
    clear H0 H1 H2 hwd
    go_wp2_with fail
    go_loopg [28] (l.kids.length) (fun g i wr => ∃ k : Nat, k + g = l.kids.length ∧ i = .int .i64 k ∧ Hid (Step w b (acc ++ [40] ++ wd ++ l.kidsText k) wr))
    case atStart => exact ⟨0, by omega, rfl, HS⟩
    case round =>
      obtain ⟨k, hkg, rfl, HR⟩ := hrel
      have hlb := HR.out.holds.lt
      have hkl := HKL.out k (by omega)
      have hln : (acc ++ [40] ++ wd ++ l.kidsText k).length = acc.length + 1 + wd.length + (l.kidsText k).length := by simp only [List.length_append, List.length_singleton]
      by_cases hlt : k < l.kids.length
      · obtain ⟨b', x, rfl, hbB, h3, hin⟩ := HK.out k hlt
        obtain ⟨k', nm', A', n', cap', rfl, c0, c1, c2⟩ := h3
        have d0 := (HR.out.wrote.low.cell (p := ⟨b', k * 3, none⟩) (by show b' < b; omega)).trans c0
        have d1 := (HR.out.wrote.low.cell (p := ⟨b', k * 3 + 1, none⟩) (by show b' < b; omega)).trans c1
        have d2 := (HR.out.wrote.low.cell (p := ⟨b', k * 3 + 2, none⟩) (by show b' < b; omega)).trans c2
        have hbw : b' < wr.heap.size := by omega
        have HSn := hide (l.kidsText_snoc k hlt)
        have HA := hide (HR.out.alloc (.cells #[.int .i64 k', .string nm', .slice A' n' cap'] 28))
        have HX3 := hide (heap_alloc_new wr (.cells #[.int .i64 k', .string nm', .slice A' n' cap'] 28))
        have HI := hide hin
        clear c0 c1 c2 hin g0 g1 g2
        go_wp2_with (go_at_call 39; refine (step_byte 32 _ HA.out (by omega)).mono ?_)
        rintro e w3 ⟨rfl, H3⟩
        obtain ⟨p0, p1, p2⟩ := box_cells (H3.out.2.box HX3.out (by omega))
        have hln3 : (acc ++ [40] ++ wd ++ l.kidsText k ++ [32]).length + (Lv.text l.kids[k]).length ≤ acc.length + T := by
          have h1 := HKL.out (k + 1) (by omega)
          rw [HSn.out] at h1
          rw [List.length_append, hln]
          simp only [List.length_append, List.length_singleton] at h1 ⊢
          omega
        have HQ := hide (IH.out k hlt _ _ w3 (HI.out.below (H3.out.1.wrote.low.mono hB)) H3.out.1.holds hln3 (HT.out.below H3.out.1.wrote.low h0))
        clear d0 d1 d2 HA
        go_wp2_with (go_at_call 22; refine HQ.out.mono ?_)
        rintro e w4 ⟨rfl, hh, hw⟩
        have H4 := hide (H3.out.1.then hh hw)
        clear hh hw
        go_wp2_with fail
        go_roundg (l.kids.length - (k + 1))
        case measure => omega
        case rel => exact ⟨k + 1, by omega, by go_num, by rw [HSn.out]; simpa [List.append_assoc] using H4⟩
      · have hke : k = l.kids.length := by omega
        subst hke
        go_wp2_with (go_at_call 39; refine (step_byte 41 _ HR.out (by omega)).mono ?_)
        rintro e w3 ⟨rfl, H3⟩
        go_wp2_with fail
        go_end0
        exact ⟨rfl, by simpa [List.append_assoc] using H3.out.1.holds, H3.out.1.wrote⟩

theorem write_calls (N : Nat) : ∀ (l : LvB) (v : Value) (B b : Nat) (acc : List UInt8) (w : World), l.nodes ≤ N → B ≤ b → 0 < b → InLv w B l v → (∀ p, Lv.has p l → p.size ≤ 1000) → Holds w b acc → acc.length + l.text.length ≤ 100000000000 → Table w →
    Calls Tryd.prog 22 #[.pointer (some ⟨b, 0, none⟩), v] w fun e w' => e = .returned (.tuple #[]) ∧ Holds w' b (acc ++ l.text) ∧ Wrote b w w' := by
  induction N with
  | zero => intro l v B b acc w h; cases l <;> simp [Lv.nodes] at h
  | succ N ih =>
    intro l v B b acc w hN hB h0 hl hm hh hlen ht
    have hik : ∀ k (hk : k < l.kids.length) (v : Value) (acc' : List UInt8) (W : World), InLv W B l.kids[k] v → Holds W b acc' → acc'.length + (Lv.text l.kids[k]).length ≤ acc.length + l.text.length → Table W → Calls Tryd.prog 22 #[.pointer (some ⟨b, 0, none⟩), v] W fun e w' => e = .returned (.tuple #[]) ∧ Holds w' b (acc' ++ Lv.text l.kids[k]) ∧ Wrote b W w' := fun k hk v acc' W hin hho hln htb =>
      ih _ v B b acc' W (by have := Lv.kid_nodes hk; omega) hB h0 hin (fun p hp => hm p (Lv.kid_has hk hp)) hho (by omega) htb
    have hs := hl.shape
    have htx := l.text_kids
    cases l with
    | zero => have e : v = _ := hl; subst e; exact write_zero b acc w hh (by omega) ht
    | param p => have e : v = _ := hl; subst e; exact write_param b acc p w hh (by omega) (by have := hm p rfl; omega) ht
    | succ a =>
      obtain ⟨A, cap, rfl, hk⟩ := hs
      have htx' := htx (by simp [Lv.kind]) (by simp [Lv.kind])
      rw [htx'] at hik hlen ⊢
      exact write_node 1 [115] (.inl ⟨rfl, rfl⟩) (.succ a) A cap b B acc w hB h0 hh _ (by simp [Lv.word]; omega) hlen ht hk hik
    | max a c =>
      obtain ⟨A, cap, rfl, hk⟩ := hs
      have htx' := htx (by simp [Lv.kind]) (by simp [Lv.kind])
      rw [htx'] at hik hlen ⊢
      exact write_node 2 [109, 97, 120] (.inr (.inl ⟨rfl, rfl⟩)) (.max a c) A cap b B acc w hB h0 hh _ (by simp [Lv.word]; omega) hlen ht hk hik
    | imax a c =>
      obtain ⟨A, cap, rfl, hk⟩ := hs
      have htx' := htx (by simp [Lv.kind]) (by simp [Lv.kind])
      rw [htx'] at hik hlen ⊢
      exact write_node 3 [105, 109, 97, 120] (.inr (.inr ⟨rfl, rfl⟩)) (.imax a c) A cap b B acc w hB h0 hh _ (by simp [Lv.word]; omega) hlen ht hk hik

end Go.Proofs.YtpdoegjddiaaoaaDoor
