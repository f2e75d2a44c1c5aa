/- The contract of done, and of fail whatever went before. -/
import Derived.Test.YtafdlaaohglfdaaGreatDoorExact
import Derived.Test.YtafdlaaohglfdaaGreatDoorTouch
import Derived.Deep.RegionLaw

namespace Go.Proofs.YtafdlaaohglfdaaGreatDoor
open Go.RowKit

theorem fail_any (rb : Nat) (s : ByteArray) (p code a b : Nat) (w : World) (h : RdAt w rb s p code a) : Calls Tryz.prog 33 #[.pointer (some ⟨rb, 0, none⟩), .int .i64 (b : Nat)] w fun e w' => ∃ c' a' : Nat, e = .returned (.tuple #[]) ∧ RdAt w' rb s p c' a' ∧ (c' ≠ 0 ∧ ((code ≠ 0 ∧ c' = code ∧ a' = a) ∨ (code = 0 ∧ c' = 1 ∧ a' = b))) ∧ Touched w rb w' := by
  by_cases hc : code = 0
  · subst hc
    exact (fail_zero rb s p a b w h).mono fun e w' ⟨he, hr, ht⟩ => ⟨1, b, he, hr, ⟨by omega, .inr ⟨rfl, rfl, rfl⟩⟩, ht⟩
  · exact (fail_not rb s p code a b w hc h).mono fun e w' ⟨he, hw⟩ => ⟨code, a, he, by rw [hw]; exact h, ⟨hc, .inl ⟨hc, rfl, rfl⟩⟩, by rw [hw]; exact Touched.refl _ _⟩

set_option maxHeartbeats 1000000 in
theorem done_calls (rb : Nat) (s : ByteArray) (p code a : Nat) (w : World) (hs : s.size ≤ 20000) (hp : p ≤ s.size) (h : RdAt w rb s p code a) :
    Calls Tryz.prog 16 #[.pointer (some ⟨rb, 0, none⟩)] w fun e w' => ∃ c' a' : Nat, e = .returned (.agg #[.int .i64 (c' : Nat), .int .i64 (a' : Nat)]) ∧ (c' = 0 → code = 0 ∧ runTo blankB s p = s.size) ∧ (c' ≠ 0 → (code ≠ 0 ∧ c' = code ∧ a' = a) ∨ (code = 0 ∧ c' = 1 ∧ a' = runTo blankB s p ∧ runTo blankB s p ≠ s.size)) ∧ Touched w rb w' := by
  have hal := h.alloc (.cells #[.int .i64 0, .int .i64 0] 31)
  have hrb := h.lt
  have HT := hide (token_calls s p rb _ hs hp hal.c0 hal.c1)
  have HA : Hid (Touched w rb (w.alloc (.cells #[.int .i64 0, .int .i64 0] 31))) := Touched.alloc _ _ _
  have c2 := h.c2
  have c3 := h.c3
  have HF := hide (fun b => fail_any rb s p code a b _ hal)
  have HPl := hide (tok_place s p hp)
  have HEn := hide (tok_end hp)
  clear h hal
  generalize (tok s p).t = t at *
  generalize (tok s p).at_ = k at *
  generalize (tok s p).ok = ok at *
  by_cases ht : ok = true ∧ t = ⟨#[]⟩
  · obtain ⟨rfl, ht⟩ := ht
    have hb := sameLit_pos (l := []) ht
    have H := hide ht
    clear ht
    go_enter Tryz.func16, Tryz.ntmps16
    go_wp2_with (go_at_call 32; refine HT.out.mono ?_; rintro e w' ⟨rfl, rfl⟩)
    refine bodyPost_ret (v := .agg #[.int .i64 (code : Nat), .int .i64 (a : Nat)]) (by simp [results, Tryz.results16, go_sem]) rfl ⟨code, a, rfl, fun h => ⟨h, HEn.out.1 ⟨by trivial, H.out⟩⟩, fun h => .inl ⟨h, rfl, rfl⟩, ?_⟩
    exact Touched.alloc _ _ _
  · have hb : (!ok || !(t.toList == ([] : List UInt8))) = true := by
      cases ok with
      | false => rfl
      | true => rw [sameLit_neg (l := []) (fun e => ht ⟨rfl, e⟩)]; rfl
    have HNe : Hid (runTo blankB s p ≠ s.size) := fun e => ht (HEn.out.2 e)
    cases ok with
    | false =>
      clear ht hb
      go_enter Tryz.func16, Tryz.ntmps16
      go_wp2_with (first
        | (go_at_call 32; refine HT.out.mono ?_; rintro e w' ⟨rfl, rfl⟩)
        | (go_at_call 33; refine (HF.out _).mono ?_))
      rintro e w2 ⟨c', a', rfl, hr, hc', ht⟩
      have d2 := hr.c2
      have d3 := hr.c3
      have hz := ht.size
      have hblk := ht.block w.heap.size (by simp) (by simp; omega)
      have d4 : w2.cell? ⟨w.heap.size, 0, none⟩ = some (.int .i64 0) := by rw [World.cell?_of_block hblk]; simp
      have d5 : w2.cell? ⟨w.heap.size, 1, none⟩ = some (.int .i64 0) := by rw [World.cell?_of_block hblk]; simp
      have d6 : w2.frozen? ⟨w.heap.size, 0, none⟩ = false := by rw [World.frozen?_of_block hblk]; simp [World.frozen?_alloc_at]
      have d7 : w2.frozen? ⟨w.heap.size, 1, none⟩ = false := by rw [World.frozen?_of_block hblk]; simp [World.frozen?_alloc_at]
      simp at hz
      have HTo := hide (HA.out.trans ht)
      have HC := hide hc'
      clear hr ht hblk hc'
      go_wp2_with fail
      refine bodyPost_ret (v := .agg #[.int .i64 (c' : Nat), .int .i64 (a' : Nat)]) (by simp [results, Tryz.results16, go_sem, d4, d5]) rfl ⟨c', a', rfl, fun h => absurd h HC.out.1, fun _ => HC.out.2.imp id fun x => ⟨x.1, x.2.1, x.2.2.trans HPl.out, HNe.out⟩, ?_⟩
      exact (HTo.out.setNew (a := ⟨w.heap.size, 0, none⟩) (Nat.le_refl _) _).setNew (a := ⟨w.heap.size, 1, none⟩) (Nat.le_refl _) _
    | true =>
      have hb2 : (t.toList == ([] : List UInt8)) = false := by simpa using hb
      clear ht hb
      go_enter Tryz.func16, Tryz.ntmps16
      go_wp2_with (first
        | (go_at_call 32; refine HT.out.mono ?_; rintro e w' ⟨rfl, rfl⟩)
        | (go_at_call 33; refine (HF.out _).mono ?_))
      rintro e w2 ⟨c', a', rfl, hr, hc', ht⟩
      have d2 := hr.c2
      have d3 := hr.c3
      have hz := ht.size
      have hblk := ht.block w.heap.size (by simp) (by simp; omega)
      have d4 : w2.cell? ⟨w.heap.size, 0, none⟩ = some (.int .i64 0) := by rw [World.cell?_of_block hblk]; simp
      have d5 : w2.cell? ⟨w.heap.size, 1, none⟩ = some (.int .i64 0) := by rw [World.cell?_of_block hblk]; simp
      have d6 : w2.frozen? ⟨w.heap.size, 0, none⟩ = false := by rw [World.frozen?_of_block hblk]; simp [World.frozen?_alloc_at]
      have d7 : w2.frozen? ⟨w.heap.size, 1, none⟩ = false := by rw [World.frozen?_of_block hblk]; simp [World.frozen?_alloc_at]
      simp at hz
      have HTo := hide (HA.out.trans ht)
      have HC := hide hc'
      clear hr ht hblk hc'
      go_wp2_with fail
      refine bodyPost_ret (v := .agg #[.int .i64 (c' : Nat), .int .i64 (a' : Nat)]) (by simp [results, Tryz.results16, go_sem, d4, d5]) rfl ⟨c', a', rfl, fun h => absurd h HC.out.1, fun _ => HC.out.2.imp id fun x => ⟨x.1, x.2.1, x.2.2.trans HPl.out, HNe.out⟩, ?_⟩
      exact (HTo.out.setNew (a := ⟨w.heap.size, 0, none⟩) (Nat.le_refl _) _).setNew (a := ⟨w.heap.size, 1, none⟩) (Nat.le_refl _) _

end Go.Proofs.YtafdlaaohglfdaaGreatDoor

/- A level that is read: where it lies; the contract of level where a fault stands already, and at a 0. -/
namespace Go.Proofs.YtafdlaaohglfdaaGreatDoor
open Go.RowKit

/-- The value is that level, all its parts in blocks from lo on. -/
def InAbove (w : World) (lo : Nat) : LvB → Value → Prop
  | .zero, v => v = .agg #[.int .i64 0, .string ⟨#[]⟩, .slice none 0 0]
  | .param p, v => v = .agg #[.int .i64 4, .string p, .slice none 0 0]
  | .succ a, v => ∃ b cap x, v = .agg #[.int .i64 1, .string ⟨#[]⟩, .slice (some ⟨b, 0, none⟩) 1 cap] ∧ lo ≤ b ∧ Three w b 0 x ∧ InAbove w lo a x
  | .max a c, v => ∃ b cap x y, v = .agg #[.int .i64 2, .string ⟨#[]⟩, .slice (some ⟨b, 0, none⟩) 2 cap] ∧ lo ≤ b ∧ Three w b 0 x ∧ Three w b 3 y ∧ InAbove w lo a x ∧ InAbove w lo c y
  | .imax a c, v => ∃ b cap x y, v = .agg #[.int .i64 3, .string ⟨#[]⟩, .slice (some ⟨b, 0, none⟩) 2 cap] ∧ lo ≤ b ∧ Three w b 0 x ∧ Three w b 3 y ∧ InAbove w lo a x ∧ InAbove w lo c y

theorem Three.lt {w : World} {b o : Nat} {x : Value} (h : Three w b o x) : b < w.heap.size := by
  obtain ⟨_, _, _, _, _, _, h0, _⟩ := h
  exact World.block_lt_of_cell? _ _ h0
theorem Three.touched {w w' : World} {rb b o : Nat} {x : Value} (h : Three w b o x) (ht : Touched w rb w') (hne : b ≠ rb) : Three w' b o x := by
  have hlt := h.lt
  obtain ⟨k, nm, A, n, cap, e, h0, h1, h2⟩ := h
  exact ⟨k, nm, A, n, cap, e, by rw [ht.cell hlt hne]; exact h0, by rw [ht.cell hlt hne]; exact h1, by rw [ht.cell hlt hne]; exact h2⟩

theorem InAbove.touched {w w' : World} {rb lo : Nat} (ht : Touched w rb w') (hlo : rb < lo) : ∀ {l : LvB} {v : Value}, InAbove w lo l v → InAbove w' lo l v
  | .zero, _, hl => hl
  | .param _, _, hl => hl
  | .succ a, _, ⟨b, cap, x, e, hb, h3, ha⟩ => ⟨b, cap, x, e, hb, h3.touched ht (by omega), InAbove.touched ht hlo (l := a) ha⟩
  | .max a c, _, ⟨b, cap, x, y, e, hb, h3, h4, ha, hc⟩ => ⟨b, cap, x, y, e, hb, h3.touched ht (by omega), h4.touched ht (by omega), InAbove.touched ht hlo (l := a) ha, InAbove.touched ht hlo (l := c) hc⟩
  | .imax a c, _, ⟨b, cap, x, y, e, hb, h3, h4, ha, hc⟩ => ⟨b, cap, x, y, e, hb, h3.touched ht (by omega), h4.touched ht (by omega), InAbove.touched ht hlo (l := a) ha, InAbove.touched ht hlo (l := c) hc⟩

theorem InAbove.mono {w : World} {lo lo' : Nat} (h : lo' ≤ lo) : ∀ {l : LvB} {v : Value}, InAbove w lo l v → InAbove w lo' l v
  | .zero, _, hl => hl
  | .param _, _, hl => hl
  | .succ a, _, ⟨b, cap, x, e, hb, h3, ha⟩ => ⟨b, cap, x, e, Nat.le_trans h hb, h3, InAbove.mono h (l := a) ha⟩
  | .max a c, _, ⟨b, cap, x, y, e, hb, h3, h4, ha, hc⟩ => ⟨b, cap, x, y, e, Nat.le_trans h hb, h3, h4, InAbove.mono h (l := a) ha, InAbove.mono h (l := c) hc⟩
  | .imax a c, _, ⟨b, cap, x, y, e, hb, h3, h4, ha, hc⟩ => ⟨b, cap, x, y, e, Nat.le_trans h hb, h3, h4, InAbove.mono h (l := a) ha, InAbove.mono h (l := c) hc⟩

theorem InAbove.inLv {w : World} {lo : Nat} : ∀ {l : LvB} {v : Value}, InAbove w lo l v → InLv w w.heap.size l v
  | .zero, _, hl => hl
  | .param _, _, hl => hl
  | .succ a, _, ⟨b, cap, x, e, _, h3, ha⟩ => ⟨b, cap, x, e, h3.lt, h3, InAbove.inLv (l := a) ha⟩
  | .max a c, _, ⟨b, cap, x, y, e, _, h3, h4, ha, hc⟩ => ⟨b, cap, x, y, e, h3.lt, h3, h4, InAbove.inLv (l := a) ha, InAbove.inLv (l := c) hc⟩
  | .imax a c, _, ⟨b, cap, x, y, e, _, h3, h4, ha, hc⟩ => ⟨b, cap, x, y, e, h3.lt, h3, h4, InAbove.inLv (l := a) ha, InAbove.inLv (l := c) hc⟩

/-- What a reading of a level leaves: a value of a level's shape, the reader further on; where there is no fault, a level that stands there, no greater than what was read; else the fault's place. -/
def LevelPost (w : World) (rb : Nat) (s : ByteArray) (p code a : Nat) (e : Ending) (w' : World) : Prop :=
  ∃ (k : Int) (nm : ByteArray) (A : Option Addr) (n cap p' c' a' : Nat), e = .returned (.agg #[.int .i64 k, .string nm, .slice A n cap]) ∧ RdAt w' rb s p' c' a' ∧ p ≤ p' ∧ p' ≤ s.size ∧ Touched w rb w' ∧
    (c' = 0 → code = 0 ∧ ∃ l : LvB, InAbove w' w.heap.size l (.agg #[.int .i64 k, .string nm, .slice A n cap]) ∧ l.nodes ≤ p' - p ∧ Reads s l p p') ∧
    (c' ≠ 0 → (code ≠ 0 ∧ c' = code ∧ a' = a) ∨ (code = 0 ∧ c' = 1 ∧ Fails s p a'))

abbrev zlev : Obj := .cells #[.int .i64 0, .string ⟨#[]⟩, .slice none 0 0] 79

set_option maxHeartbeats 1000000 in
theorem level_not (rb : Nat) (s : ByteArray) (p code a : Nat) (w : World) (hs : s.size ≤ 20000) (hp : p ≤ s.size) (hc : code ≠ 0) (h : RdAt w rb s p code a) :
    Calls Tryz.prog 36 #[.pointer (some ⟨rb, 0, none⟩)] w fun e w' => LevelPost w rb s p code a e w' := by
  have hal := h.alloc zlev
  have hrb := h.lt
  have HT := hide (token_calls s p rb _ hs hp hal.c0 hal.c1)
  obtain ⟨k1, k2, k3, k4⟩ := tok_facts hp
  have HN := hide (fun W => isName_calls (tok s p).t W (by omega))
  have c2 := h.c2
  have HR := hide hal
  have e1 : ((code : Int) == 0) = false := by simp; omega
  have HC := hide hc
  clear h hal hc k1 k2 k3 k4
  generalize (tok s p).t = t at *
  generalize (tok s p).at_ = k at *
  generalize (tok s p).ok = ok at *
  go_enter Tryz.func36, Tryz.ntmps36
  go_wp2_with (first
    | (go_at_call 32; refine HT.out.mono ?_; rintro e w' ⟨rfl, rfl⟩)
    | (go_at_call 57; refine (HN.out _).mono ?_; rintro e w' ⟨rfl, rfl⟩))
  refine bodyPost_ret (v := .agg #[.int .i64 0, .string ⟨#[]⟩, .slice none 0 0]) (by simp [results, Tryz.results36, go_sem]) rfl ?_
  exact ⟨0, ⟨#[]⟩, none, 0, 0, p, code, a, rfl, HR.out, Nat.le_refl _, hp, Touched.alloc _ _ _, fun h => absurd h HC.out, fun _ => .inl ⟨HC.out, rfl, rfl⟩⟩

set_option maxHeartbeats 1000000 in
theorem level_zero (rb : Nat) (s : ByteArray) (p a : Nat) (w : World) (hs : s.size ≤ 20000) (hp : p ≤ s.size) (h : RdAt w rb s p 0 a) (ht : (tok s p).t = ⟨#[48]⟩) :
    Calls Tryz.prog 36 #[.pointer (some ⟨rb, 0, none⟩)] w fun e w' => LevelPost w rb s p 0 a e w' := by
  have hal := h.alloc zlev
  have hrb := h.lt
  have HT := hide (token_calls s p rb _ hs hp hal.c0 hal.c1)
  obtain ⟨k1, k2, k3, k4⟩ := tok_facts hp
  have HN := hide (fun W => isName_calls (tok s p).t W (by omega))
  have HX := hide (next_calls rb s p a _ hs hp hal (by rw [ht]; intro e; cases e))
  have HZ := hide (tok_zero hp ht)
  rw [ht] at HT HN k2 HX
  have k2' : (tok s p).at_ + 1 ≤ s.size := k2
  have HK := hide k1
  have c2 := h.c2
  clear h hal k1 k2 k3 k4 ht
  generalize (tok s p).at_ = k at *
  generalize (tok s p).ok = ok at *
  go_enter Tryz.func36, Tryz.ntmps36
  go_wp2_with (first
    | (go_at_call 32; refine HT.out.mono ?_; rintro e w' ⟨rfl, rfl⟩)
    | (go_at_call 57; refine (HN.out _).mono ?_; rintro e w' ⟨rfl, rfl⟩)
    | (go_at_call 34; refine HX.out.mono ?_))
  rintro e w' ⟨rfl, hr, ht⟩
  have hz := ht.size
  have hblk := ht.block w.heap.size (by simp) (by simp; omega)
  have d4 : w'.cell? ⟨w.heap.size, 0, none⟩ = some (.int .i64 0) := by rw [World.cell?_of_block hblk]; simp
  have d5 : w'.cell? ⟨w.heap.size, 1, none⟩ = some (.string ⟨#[]⟩) := by rw [World.cell?_of_block hblk]; simp
  have d6 : w'.cell? ⟨w.heap.size, 2, none⟩ = some (.slice none 0 0) := by rw [World.cell?_of_block hblk]; simp
  have f4 : ∀ i, w'.frozen? ⟨w.heap.size, i, none⟩ = false := fun i => by rw [World.frozen?_of_block hblk]; simp [World.frozen?_alloc_at]
  simp at hz
  have HR := hide hr
  have HTo := hide ((Touched.alloc w rb zlev).trans ht)
  clear hr ht hblk
  go_wp2_with fail
  refine bodyPost_ret (v := .agg #[.int .i64 0, .string ⟨#[]⟩, .slice none 0 0]) (by simp [results, Tryz.results36, go_sem, d4, d5, d6]) rfl ?_
  refine ⟨0, ⟨#[]⟩, none, 0, 0, k + 1, 0, a, rfl, ?_, by have := HK.out; omega, k2', ?_, fun _ => ⟨rfl, .zero, rfl, by have := HK.out; simp [Lv.nodes]; omega, HZ.out⟩, fun h => absurd rfl h⟩
  · exact ((HR.out.setOther (b := ⟨w.heap.size, 0, none⟩) (by show w.heap.size ≠ rb; omega) _).setOther (b := ⟨w.heap.size, 1, none⟩) (by show w.heap.size ≠ rb; omega) _).setOther (b := ⟨w.heap.size, 2, none⟩) (by show w.heap.size ≠ rb; omega) _
  · exact ((HTo.out.setNew (a := ⟨w.heap.size, 0, none⟩) (Nat.le_refl _) _).setNew (a := ⟨w.heap.size, 1, none⟩) (Nat.le_refl _) _).setNew (a := ⟨w.heap.size, 2, none⟩) (Nat.le_refl _) _

end Go.Proofs.YtafdlaaohglfdaaGreatDoor

/- An append onto a slice that the call owns, told with its place: where it was, or a new block. -/
namespace Go.Proofs.YtafdlaaohglfdaaGreatDoor
open Go.RowKit

theorem append_place {P : Program} (w : World) (base : Nat) (t ty e : TypeId) (i : TypeInfo) (z : Value) (size bytes : Nat) (ht : P.underlying t = some (.slice e)) (hi : P.info? e = some i) (hz : i.zero = some z)
    (hsize : i.size = size) (hby : i.bytes = bytes)
    (v : Value) (n : Nat) (xs : List Value) (hown : w.ownsRow base e size v n xs)
    (a : Addr) (m c : Nat) (news : List Value) (hl : news.length = m * size) (hnews : ∀ j u, news[j]? = some u → w.cell? (a.add j) = some u) (h1 : ∀ u ∈ news, u.oneCell' = true) (hm : 0 < m)
    (h63 : n + m ≤ maxLen) (hbytes : (n + m) * bytes ≤ 140737488355328) {v' : Value} {w' : World} (hrun : (Builtin.append_ #[t, t] ty #[v, .slice (some a) m c]).run P w = .ok v' w') :
    v'.ownBlock = v.ownBlock ∨ v'.ownBlock = some w.heap.size := by
  subst hsize
  subst hby
  have hsmall : n + m ≤ 9223372036854775807 := by simp only [maxLen] at h63; omega
  rcases hown.2 with ⟨rfl, rfl⟩ | ⟨g, cap, cur, rfl, hbg, hg, hnc, hcm, hcs, htake⟩
  · have hr := run_append_nil (P := P) w t ty e i z ht hi hz a m c news hl hnews (by omega) (by omega) (by have hb := hbytes; simp only [Nat.zero_add] at hb; omega)
    rw [hr] at hrun
    injection hrun with e1 _
    subst e1
    exact .inr rfl
  · by_cases hroom : n + m ≤ cap
    · have hfit : n * i.size + news.length ≤ cur.size := by rw [hl, hcs, ← Nat.add_mul]; exact Nat.mul_le_mul_right _ hroom
      have hr := run_append_room (P := P) w t ty e i ht hi g n cap cur hg a m c news hl hnews h1 hroom hfit
      rw [hr] at hrun
      injection hrun with e1 _
      subst e1
      exact .inl rfl
    · have holds : ∀ j u, xs[j]? = some u → w.cell? ((⟨g, 0, none⟩ : Addr).add j) = some u := hown.cells (g := g) rfl
      have hr := run_append_grow (P := P) w t ty e i z ht hi hz ⟨g, 0, none⟩ n cap xs hown.1 holds a m c news hl hnews (by omega) (by omega) (growslice_fits (by omega) hbytes)
      rw [hr] at hrun
      injection hrun with e1 _
      subst e1
      exact .inr rfl

/-- As the walk takes it: behind 'at_builtin'. -/
theorem wpList_append_placed {P : Program} (w : World) {ops : Array Oper} {rest : List Oper} {o : Oper} {a : Act} {Q : Exit → Act → World → Prop} (hgd : o.guard = none) (s x : Operand) (t : TypeId)
    (ho : o.op = .call { callee := .builtin .append, args := #[s, x], argTypes := #[t, t] })
    (base : Nat) (e : TypeId) (i : TypeInfo) (z : Value) (size bytes : Nat) (ht : P.underlying t = some (.slice e)) (hi : P.info? e = some i) (hz : i.zero = some z)
    (hsize : i.size = size) (hby : i.bytes = bytes) (hzs : z.cells.size = size) (hsz : 0 < size)
    (v : Value) (n : Nat) (xs : List Value) (hs : a.eval s = v) (hown : w.ownsRow base e size v n xs)
    (ad : Addr) (m c : Nat) (news : List Value) (hx : a.eval x = .slice (some ad) m c) (hl : news.length = m * size) (hnews : ∀ j u, news[j]? = some u → w.cell? (ad.add j) = some u) (h1 : ∀ u ∈ news, u.oneCell' = true) (hm : 0 < m)
    (h63 : n + m ≤ maxLen) (hbytes : (n + m) * bytes ≤ 140737488355328) (hbase : base ≤ w.heap.size)
    (h : ∀ v' w', w'.ownsRow base e size v' (n + m) (xs ++ news) → w.grownBy w' v.ownBlock → (v'.ownBlock = v.ownBlock ∨ v'.ownBlock = some w.heap.size) → wpList P ops Q rest (a.put o.dst v') w') : wpList P ops Q (o :: rest) a w := by
  refine wpList_plain hgd fun _ hK => ?_
  obtain ⟨v', w', hr, h2, h3, _⟩ := run_append_own (P := P) w base t o.type e i z size bytes ht hi hz hsize hby hzs hsz v n xs hown ad m c news hl hnews h1 h63 hbytes hbase
  have hp := append_place (P := P) w base t o.type e i z size bytes ht hi hz hsize hby v n xs hown ad m c news hl hnews h1 hm h63 hbytes hr
  unfold Oper.wp execOp
  simp only [ho, resolve, invoke, builtin, Sem.run_bind, Sem.run_pure, Result.andThen_ok, List.map_toArray, List.map_cons, List.map_nil, hs, hx, hr]
  exact hK _ _ (h v' w' h2 h3 hp)

/-- Blocks that a call leaves alone: all old ones but the row of the slice that it was handed. -/
def Grew (w : World) (v : Value) (w' : World) (v' : Value) : Prop := w.grownBy w' v.ownBlock ∧ (v'.ownBlock = v.ownBlock ∨ ∀ k, v'.ownBlock = some k → w.heap.size ≤ k)

theorem Grew.refl (w : World) (v : Value) : Grew w v w v := ⟨World.grownBy.refl _ _, .inl rfl⟩

theorem Grew.trans {w w' w'' : World} {v v' v'' : Value} (h : Grew w v w' v') (h' : Grew w' v' w'' v'') : Grew w v w'' v'' := by
  refine ⟨⟨h'.1.os.trans h.1.os, h'.1.tape.trans h.1.tape, h'.1.output.trans h.1.output, Nat.le_trans h.1.size h'.1.size, fun k hk hne => ?_⟩, ?_⟩
  · refine (h'.1.block k (Nat.lt_of_lt_of_le hk h.1.size) ?_).trans (h.1.block k hk hne)
    rcases h.2 with e | e
    · rw [e]; exact hne
    · intro e'
      have := e k e'.symm
      omega
  · rcases h'.2 with e' | e'
    · rw [e']; exact h.2
    · exact .inr fun k hk => Nat.le_trans h.1.size (e' k hk)

theorem Grew.alloc {w : World} {v : Value} (o : Obj) : Grew w v (w.alloc o) v := ⟨World.grownBy_alloc _ _ _, .inl rfl⟩

theorem Grew.below {w w' : World} {v v' : Value} {B : Nat} (h : Grew w v w' v') (hB : B ≤ w.heap.size) (hv : ∀ k, v.ownBlock = some k → B ≤ k) : Below B w w' :=
  (Below.refl _ _).grown h.1 hB hv

theorem Grew.cell {w w' : World} {v v' : Value} (h : Grew w v w' v') {p : Addr} (hp : p.block < w.heap.size) (hne : some p.block ≠ v.ownBlock) : w'.cell? p = w.cell? p :=
  World.cell?_of_block (h.1.block p.block hp hne)

end Go.Proofs.YtafdlaaohglfdaaGreatDoor

/- The contract of level at a name, at a token that cannot stand there, and at a bracket with another word. -/
namespace Go.Proofs.YtafdlaaohglfdaaGreatDoor
open Go.RowKit

theorem isNameB_ne {t : ByteArray} (h : isNameB t = true) : t ≠ ⟨#[]⟩ := by
  intro e; subst e; simp [isNameB] at h

theorem size_pos {t : ByteArray} (h : t ≠ ⟨#[]⟩) : 0 < t.size := by
  rcases Nat.eq_zero_or_pos t.size with h' | h'
  · exact absurd (by cases t; rename_i d; simp [ByteArray.size] at h'; rw [h']) h
  · exact h'

set_option maxHeartbeats 1000000 in
theorem level_name (rb : Nat) (s : ByteArray) (p a : Nat) (w : World) (hs : s.size ≤ 20000) (hp : p ≤ s.size) (h : RdAt w rb s p 0 a) (h0 : (tok s p).t ≠ ⟨#[48]⟩) (hn : isNameB (tok s p).t = true) :
    Calls Tryz.prog 36 #[.pointer (some ⟨rb, 0, none⟩)] w fun e w' => LevelPost w rb s p 0 a e w' := by
  have HNm := hide (tok_word hp hn)
  have hal := h.alloc zlev
  have hrb := h.lt
  have HT := hide (token_calls s p rb _ hs hp hal.c0 hal.c1)
  obtain ⟨k1, k2, k3, k4⟩ := tok_facts hp
  have HN := hide (fun W => isName_calls (tok s p).t W (by omega))
  have HX := hide (next_calls rb s p a _ hs hp hal (isNameB_ne hn))
  have hps := size_pos (isNameB_ne hn)
  have hb := sameLit_neg (l := [48]) h0
  rw [hn] at HN
  have HK := hide (And.intro k1 (And.intro k2 (And.intro k3 hps)))
  have c2 := h.c2
  clear h hal k1 k2 k3 k4 h0 hn hps
  generalize (tok s p).t = t at *
  generalize (tok s p).at_ = k at *
  generalize (tok s p).ok = ok at *
  go_enter Tryz.func36, Tryz.ntmps36
  go_wp2_with (first
    | (go_at_call 32; refine HT.out.mono ?_; rintro e w' ⟨rfl, rfl⟩)
    | (go_at_call 57; refine (HN.out _).mono ?_; rintro e w' ⟨rfl, rfl⟩)
    | (go_at_call 34; refine HX.out.mono ?_))
  rintro e w' ⟨rfl, hr, ht⟩
  have hz := ht.size
  have hblk := ht.block w.heap.size (by simp) (by simp; omega)
  have d4 : w'.cell? ⟨w.heap.size, 0, none⟩ = some (.int .i64 0) := by rw [World.cell?_of_block hblk]; simp
  have d5 : w'.cell? ⟨w.heap.size, 1, none⟩ = some (.string ⟨#[]⟩) := by rw [World.cell?_of_block hblk]; simp
  have d6 : w'.cell? ⟨w.heap.size, 2, none⟩ = some (.slice none 0 0) := by rw [World.cell?_of_block hblk]; simp
  have f4 : ∀ i, w'.frozen? ⟨w.heap.size, i, none⟩ = false := fun i => by rw [World.frozen?_of_block hblk]; simp [World.frozen?_alloc_at]
  simp at hz
  have HR := hide hr
  have HTo := hide ((Touched.alloc w rb zlev).trans ht)
  clear hr ht hblk
  go_wp2_with fail
  refine bodyPost_ret (v := .agg #[.int .i64 4, .string t, .slice none 0 0]) (by simp [results, Tryz.results36, go_sem, d4, d5, d6]) rfl ?_
  obtain ⟨k1, k2, k3, hps⟩ := HK.out
  refine ⟨4, t, none, 0, 0, k + t.size, 0, a, rfl, ?_, by omega, k2, ?_, fun _ => ⟨rfl, .param t, rfl, by simp [Lv.nodes]; omega, HNm.out⟩, fun h => absurd rfl h⟩
  · exact ((HR.out.setOther (b := ⟨w.heap.size, 0, none⟩) (by show w.heap.size ≠ rb; omega) _).setOther (b := ⟨w.heap.size, 1, none⟩) (by show w.heap.size ≠ rb; omega) _).setOther (b := ⟨w.heap.size, 2, none⟩) (by show w.heap.size ≠ rb; omega) _
  · exact ((HTo.out.setNew (a := ⟨w.heap.size, 0, none⟩) (Nat.le_refl _) _).setNew (a := ⟨w.heap.size, 1, none⟩) (Nat.le_refl _) _).setNew (a := ⟨w.heap.size, 2, none⟩) (Nat.le_refl _) _

set_option maxHeartbeats 1000000 in
theorem level_bad (rb : Nat) (s : ByteArray) (p a : Nat) (w : World) (hs : s.size ≤ 20000) (hp : p ≤ s.size) (h : RdAt w rb s p 0 a) (h0 : (tok s p).t ≠ ⟨#[48]⟩) (hn : isNameB (tok s p).t = false) (h1 : (tok s p).t ≠ ⟨#[40]⟩) :
    Calls Tryz.prog 36 #[.pointer (some ⟨rb, 0, none⟩)] w fun e w' => LevelPost w rb s p 0 a e w' := by
  have hal := h.alloc zlev
  have hrb := h.lt
  have HT := hide (token_calls s p rb _ hs hp hal.c0 hal.c1)
  obtain ⟨k1, k2, k3, k4⟩ := tok_facts hp
  have HN := hide (fun W => isName_calls (tok s p).t W (by omega))
  have HX := hide (fun b => fail_zero rb s p a b _ hal)
  have HFl : Hid (Fails s p (tok s p).at_) := by unfold Hid; rw [tok_place s p hp]; exact Fails.none h0 hn h1
  have hb := sameLit_neg (l := [48]) h0
  have hb1 := sameLit_neg (l := [40]) h1
  rw [hn] at HN
  have c2 := h.c2
  clear h hal k1 k2 k3 k4 h0 hn h1
  generalize (tok s p).t = t at *
  generalize (tok s p).at_ = k at *
  generalize (tok s p).ok = ok at *
  go_enter Tryz.func36, Tryz.ntmps36
  go_wp2_with (first
    | (go_at_call 32; refine HT.out.mono ?_; rintro e w' ⟨rfl, rfl⟩)
    | (go_at_call 57; refine (HN.out _).mono ?_; rintro e w' ⟨rfl, rfl⟩)
    | (go_at_call 33; refine (HX.out _).mono ?_))
  rintro e w' ⟨rfl, hr, ht⟩
  have hz := ht.size
  have hblk := ht.block w.heap.size (by simp) (by simp; omega)
  have d4 : w'.cell? ⟨w.heap.size, 0, none⟩ = some (.int .i64 0) := by rw [World.cell?_of_block hblk]; simp
  have d5 : w'.cell? ⟨w.heap.size, 1, none⟩ = some (.string ⟨#[]⟩) := by rw [World.cell?_of_block hblk]; simp
  have d6 : w'.cell? ⟨w.heap.size, 2, none⟩ = some (.slice none 0 0) := by rw [World.cell?_of_block hblk]; simp
  have f4 : ∀ i, w'.frozen? ⟨w.heap.size, i, none⟩ = false := fun i => by rw [World.frozen?_of_block hblk]; simp [World.frozen?_alloc_at]
  simp at hz
  have HR := hide hr
  have HTo := hide ((Touched.alloc w rb zlev).trans ht)
  clear hr ht hblk
  go_wp2_with fail
  refine bodyPost_ret (v := .agg #[.int .i64 0, .string ⟨#[]⟩, .slice none 0 0]) (by simp [results, Tryz.results36, go_sem, d4, d5, d6]) rfl ?_
  refine ⟨0, ⟨#[]⟩, none, 0, 0, p, 1, k, rfl, ?_, Nat.le_refl _, hp, ?_, fun h => by omega, fun _ => .inr ⟨rfl, rfl, HFl.out⟩⟩
  · exact ((HR.out.setOther (b := ⟨w.heap.size, 0, none⟩) (by show w.heap.size ≠ rb; omega) _).setOther (b := ⟨w.heap.size, 1, none⟩) (by show w.heap.size ≠ rb; omega) _).setOther (b := ⟨w.heap.size, 2, none⟩) (by show w.heap.size ≠ rb; omega) _
  · exact ((HTo.out.setNew (a := ⟨w.heap.size, 0, none⟩) (Nat.le_refl _) _).setNew (a := ⟨w.heap.size, 1, none⟩) (Nat.le_refl _) _).setNew (a := ⟨w.heap.size, 2, none⟩) (Nat.le_refl _) _

theorem isNameB_open : isNameB ⟨#[40]⟩ = false := by decide

/-- What stands at the result's block behind calls that leave it alone. -/
theorem zcells {w w' : World} {rb : Nat} (hrb : rb < w.heap.size) (ht : Touched (w.alloc zlev) rb w') : w'.cell? ⟨w.heap.size, 0, none⟩ = some (.int .i64 0) ∧ w'.cell? ⟨w.heap.size, 1, none⟩ = some (.string ⟨#[]⟩) ∧ w'.cell? ⟨w.heap.size, 2, none⟩ = some (.slice none 0 0) ∧ (∀ i, w'.frozen? ⟨w.heap.size, i, none⟩ = false) ∧ w.heap.size + 1 ≤ w'.heap.size := by
  have hblk := ht.block w.heap.size (by simp) (by simp; omega)
  refine ⟨by rw [World.cell?_of_block hblk]; simp, by rw [World.cell?_of_block hblk]; simp, by rw [World.cell?_of_block hblk]; simp, fun i => by rw [World.frozen?_of_block hblk]; simp [World.frozen?_alloc_at], ?_⟩
  have := ht.size
  simpa using this

set_option maxHeartbeats 1000000 in
theorem level_word (rb : Nat) (s : ByteArray) (p a : Nat) (w : World) (hs : s.size ≤ 20000) (hp : p ≤ s.size) (h : RdAt w rb s p 0 a) (ht : (tok s p).t = ⟨#[40]⟩)
    (h1 : (tok s ((tok s p).at_ + 1)).t ≠ ⟨#[115]⟩) (h2 : (tok s ((tok s p).at_ + 1)).t ≠ ⟨#[109, 97, 120]⟩) (h3 : (tok s ((tok s p).at_ + 1)).t ≠ ⟨#[105, 109, 97, 120]⟩) :
    Calls Tryz.prog 36 #[.pointer (some ⟨rb, 0, none⟩)] w fun e w' => LevelPost w rb s p 0 a e w' := by
  have hal := h.alloc zlev
  have hrb := h.lt
  have HT := hide (token_calls s p rb _ hs hp hal.c0 hal.c1)
  obtain ⟨k1, k2, k3, k4⟩ := tok_facts hp
  have HN := hide (fun W => isName_calls (tok s p).t W (by omega))
  have HX := hide (next_calls rb s p a _ hs hp hal (by rw [ht]; intro e; cases e))
  rw [ht] at HT HN k2 HX
  rw [isNameB_open] at HN
  have k2' : (tok s p).at_ + 1 ≤ s.size := k2
  have HFl : Hid (Fails s p (tok s ((tok s p).at_ + 1)).at_) := by unfold Hid; rw [tok_place s _ k2']; exact Fails.word (tok_open hp ht) h1 h2 h3
  have HX2 : Hid (Calls Tryz.prog 34 #[.pointer (some ⟨rb, 0, none⟩)] (w.alloc zlev) fun e w' => e = .returned (.string ⟨#[40]⟩) ∧ RdAt w' rb s ((tok s p).at_ + 1) 0 a ∧ Touched (w.alloc zlev) rb w') := HX.out
  have HK := hide k1
  have c2 := h.c2
  have HT2 := hide (fun W (hW : RdAt W rb s ((tok s p).at_ + 1) 0 a) => token_calls s ((tok s p).at_ + 1) rb W hs k2' hW.c0 hW.c1)
  have b1 := sameLit_neg (l := [115]) h1
  have b2 := sameLit_neg (l := [109, 97, 120]) h2
  have b3 := sameLit_neg (l := [105, 109, 97, 120]) h3
  clear h hal k1 k2 k3 k4 ht HX h1 h2 h3
  generalize (tok s ((tok s p).at_ + 1)).t = t1 at *
  generalize (tok s ((tok s p).at_ + 1)).at_ = j1 at *
  generalize (tok s ((tok s p).at_ + 1)).ok = o1 at *
  generalize (tok s p).at_ = k at *
  generalize (tok s p).ok = ok at *
  go_enter Tryz.func36, Tryz.ntmps36
  go_wp2_with (first
    | (go_at_call 32; refine HT.out.mono ?_; rintro e w' ⟨rfl, rfl⟩)
    | (go_at_call 57; refine (HN.out _).mono ?_; rintro e w' ⟨rfl, rfl⟩)
    | (go_at_call 34; refine HX2.out.mono ?_))
  rintro e w' ⟨rfl, hr, ht⟩
  have HR := hide hr
  have HTo := hide ht
  have HF := hide (fun b => fail_zero rb s (k + 1) a b w' hr)
  clear hr ht
  go_wp2_with (first
    | (go_at_call 32; refine (HT2.out _ HR.out).mono ?_; rintro e w2 ⟨rfl, rfl⟩)
    | (go_at_call 33; refine (HF.out _).mono ?_))
  rintro e w3 ⟨rfl, hr3, ht3⟩
  have HT3 := hide (HTo.out.trans ht3)
  obtain ⟨d4, d5, d6, f4, hz⟩ := zcells hrb HT3.out
  have HR3 := hide hr3
  clear hr3 ht3
  go_wp2_with fail
  refine bodyPost_ret (v := .agg #[.int .i64 0, .string ⟨#[]⟩, .slice none 0 0]) (by simp [results, Tryz.results36, go_sem, d4, d5, d6]) rfl ?_
  refine ⟨0, ⟨#[]⟩, none, 0, 0, k + 1, 1, j1, rfl, ?_, by have := HK.out; omega, k2', ?_, fun h => by omega, fun _ => .inr ⟨rfl, rfl, HFl.out⟩⟩
  · exact ((HR3.out.setOther (b := ⟨w.heap.size, 0, none⟩) (by show w.heap.size ≠ rb; omega) _).setOther (b := ⟨w.heap.size, 1, none⟩) (by show w.heap.size ≠ rb; omega) _).setOther (b := ⟨w.heap.size, 2, none⟩) (by show w.heap.size ≠ rb; omega) _
  · exact ((((Touched.alloc w rb zlev).trans HT3.out).setNew (a := ⟨w.heap.size, 0, none⟩) (Nat.le_refl _) _).setNew (a := ⟨w.heap.size, 1, none⟩) (Nat.le_refl _) _).setNew (a := ⟨w.heap.size, 2, none⟩) (Nat.le_refl _) _

end Go.Proofs.YtafdlaaohglfdaaGreatDoor
