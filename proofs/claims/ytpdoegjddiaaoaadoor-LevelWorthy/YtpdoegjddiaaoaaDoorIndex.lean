/- The contracts of slices.Index, sameNames, limit, Worth of package level. -/
import Derived.Test.YtpdoegjddiaaoaaDoorWorth
import Derived.Test.YtpdoegjddiaaoaaDoorAmong
namespace Go.Proofs.YtpdoegjddiaaoaaDoor
open Go.RowKit

/-- A name's first place in a list, -1 where it has none. -/
def Place (ns : List ByteArray) (q : ByteArray) (r : Int) : Prop :=
  (r = -1 ∧ ∀ j (h : j < ns.length), ns[j] ≠ q) ∨ ∃ k : Nat, ∃ h : k < ns.length, r = k ∧ ns[k] = q ∧ ∀ j (h : j < ns.length), j < k → ns[j] ≠ q

set_option maxHeartbeats 400000 in
theorem index_calls (q : ByteArray) (ns : List ByteArray) (v : Value) (B : Nat) (w : World) (hs : InStrs w B v ns) :
    Calls Tryd.prog 18 #[v, .string q] w fun e w' => ∃ r, e = .returned (.int .i64 r) ∧ Place ns q r ∧ w' = w := by
  obtain ⟨hm, A, cap, rfl, hc⟩ := hs
  unfold maxLen at hm
  go_enter Tryd.func18, Tryd.ntmps18
  go_wp2
  go_loop [8] (fun i => ∃ k : Nat, k ≤ ns.length ∧ i = .int .i64 k ∧ ∀ j (h : j < ns.length), j < k → ns[j] ≠ q) (fun i => ns.length - (intOf i).toNat)
  case atStart => exact ⟨0, Nat.zero_le _, rfl, fun j _ h => absurd h (by omega)⟩
  case round =>
    obtain ⟨k, hk, rfl, hno⟩ := hrel
    have HN : Hid (∀ j (h : j < ns.length), j < k → ns[j] ≠ q) := hno
    clear hno
    by_cases hlt : k < ns.length
    · obtain ⟨b, o, rfl, hb, hcell⟩ := hc k hlt
      clear hc
      by_cases he : ns[k] = q
      · have HP : Hid (Place ns q k) := .inr ⟨k, hlt, rfl, he, HN.out⟩
        have hs := sameStr_pos he.symm
        clear he
        go_wp2
        go_ret
        exact ⟨k, rfl, HP.out, rfl⟩
      · have hs := sameStr_neg fun h => he h.symm
        have HE : Hid (ns[k] ≠ q) := he
        clear he
        go_wp2
        go_round
        case rel => exact ⟨k + 1, by omega, by go_num, fun j h hj => if e : j = k then by subst e; exact HE.out else HN.out j h (by omega)⟩
        case measure => simp [intOf]; omega
    · clear hc
      go_wp2
      go_ret
      exact ⟨-1, rfl, .inl ⟨rfl, fun j h => HN.out j h (by omega)⟩, rfl⟩

/-- The small number that a number gives. -/
def limN (x : Int) : Nat := ((if x < 0 then -(x + 1) else x) % 6).toNat
theorem limN_le (x : Int) : limN x ≤ 1000000 := by unfold limN; split <;> omega

set_option maxHeartbeats 400000 in
theorem limit_calls (x : Int) (w : World) (h1 : -9223372036854775808 ≤ x) (h2 : x ≤ 9223372036854775807) : Calls Tryd.prog 7 #[.int .i64 x] w fun e w' => e = .returned (.int .i64 (limN x : Nat)) ∧ w' = w := by
  by_cases hx : x < 0
  · go_enter Tryd.func7, Tryd.ntmps7
    go_wp2_with fail
    go_ret
    refine ⟨ret_int ?_, rfl⟩
    have e : -(x + 1).tmod 6 = (-(x + 1)) % 6 := by rw [← Int.neg_tmod, Int.tmod_eq_emod_of_nonneg (by omega)]
    rw [e]
    unfold limN
    rw [if_pos hx]
    omega
  · go_enter Tryd.func7, Tryd.ntmps7
    go_wp2_with fail
    go_ret
    refine ⟨ret_int ?_, rfl⟩
    unfold limN
    rw [if_neg (by omega)]
    omega

set_option maxHeartbeats 1000000 in
theorem worth1_calls (q : ByteArray) (c1 c2 : Nat) (ps : List ByteArray) (ns : List Nat) (pv nv : Value) (B : Nat) (w : World) (hc1 : w.cell? ⟨c1, 0, none⟩ = some pv) (hc2 : w.cell? ⟨c2, 0, none⟩ = some nv) (hps : InStrs w B pv ps) (hns : InInts w B nv ns) (hlen : ps.length = ns.length) :
    Calls Tryd.prog 17 (#[.string q] ++ #[.pointer (some ⟨c1, 0, none⟩), .pointer (some ⟨c2, 0, none⟩)]) w fun e w' => e = .returned (.int .i64 (look ps ns q : Nat)) ∧ w' = w := by
  show Calls Tryd.prog 17 #[.string q, .pointer (some ⟨c1, 0, none⟩), .pointer (some ⟨c2, 0, none⟩)] w _
  have HI := hide (index_calls q ps pv B w hps)
  obtain ⟨hm, A1, cap1, rfl, -⟩ := hps
  obtain ⟨A2, cap2, rfl, hc⟩ := hns
  have HC := hide hc
  have HLn := hide hlen
  clear hc hlen
  unfold maxLen at hm
  go_enter Tryd.func17, Tryd.ntmps17
  go_wp2_with (go_at_call 18; refine HI.out.mono ?_)
  rintro e w' ⟨r, rfl, hp, rfl⟩
  rcases hp with ⟨rfl, hno⟩ | ⟨k, hk, rfl, he, hno⟩
  · have HE := hide (look_none ps ns q hno)
    clear hno
    go_wp2_with fail
    go_ret
    rw [HE.out]
    exact ⟨rfl, rfl⟩
  · have hk2 : k < ns.length := by rw [← HLn.out]; exact hk
    have HE := hide (look_at ps ns q k hk hk2 hno he)
    obtain ⟨b, o, rfl, hb, hcell⟩ := HC.out k hk2
    clear hno he
    go_wp2_with fail
    go_ret
    rw [HE.out]
    exact ⟨rfl, rfl⟩

theorem worth1_numbers (c1 c2 : Nat) (ps : List ByteArray) (ns : List Nat) (pv nv : Value) (B : Nat) (w : World) (h1 : c1 < B) (h2 : c2 < B) (hc1 : w.cell? ⟨c1, 0, none⟩ = some pv) (hc2 : w.cell? ⟨c2, 0, none⟩ = some nv) (hps : InStrs w B pv ps) (hns : InInts w B nv ns) (hlen : ps.length = ns.length) :
    Numbers 17 #[.pointer (some ⟨c1, 0, none⟩), .pointer (some ⟨c2, 0, none⟩)] (look ps ns) B w :=
  ⟨fun args w' => by simp [go_sem], fun p w' _ hb => worth1_calls p c1 c2 ps ns pv nv B w' ((hb.cell h1).trans hc1) ((hb.cell h2).trans hc2) (hps.below hb) (hns.below hb) hlen⟩

set_option maxHeartbeats 1000000 in
theorem lworth_calls (ps : List ByteArray) (ns : List Nat) (pv nv : Value) (B : Nat) (hlen : ps.length = ns.length) (hle : ∀ n ∈ ns, n ≤ 1000000) (l : LvB) (v : Value) (w : World) (hm : ∀ p, Lv.has p l → p.size ≤ 1000) (hn : l.nodes ≤ 1000000) (hBw : B ≤ w.heap.size) (hl : InLv w B l v) (hps : InStrs w B pv ps) (hns : InInts w B nv ns) :
    Calls Tryd.prog 8 #[v, pv, nv] w fun e w' => e = .returned (.int .i64 (l.worth (look ps ns) : Nat)) ∧ Below w.heap.size w w' := by
  obtain ⟨A, cap, e1⟩ := hl.form
  have HW : Hid (∀ o, Calls Tryd.prog 16 #[v, .func (.func 17) #[] #[.pointer (some ⟨w.heap.size + 1, 0, none⟩), .pointer (some ⟨w.heap.size + 1 + 1, 0, none⟩)]] (((w.alloc o).alloc (.cells #[pv] 33)).alloc (.cells #[nv] 36)) fun e w' => e = .returned (.int .i64 (l.worth (look ps ns) : Nat)) ∧ Below w.heap.size w w') := fun o => by
    have hold : Below w.heap.size w (((w.alloc o).alloc (.cells #[pv] 33)).alloc (.cells #[nv] 36)) := (((Below.refl _ _).alloc (Nat.le_refl _) _).alloc (by simp) _).alloc (by simp; omega) _
    refine (worth_calls 17 _ (look ps ns) (w.heap.size + 3) (fun q => look_le ps ns q hle) l v _ hm hn (by simp) ((hl.below (hold.mono hBw)).mono (by omega))
      (worth1_numbers (w.heap.size + 1) (w.heap.size + 1 + 1) ps ns pv nv (w.heap.size + 3) _ (by omega) (by omega) ?_ ?_ ((hps.below (hold.mono hBw)).mono (by omega)) ((hns.below (hold.mono hBw)).mono (by omega)) hlen)).mono fun e w' ⟨he, hb⟩ => ⟨he, hold.trans (hb.mono (by simp; omega))⟩
    · rw [World.cell?_alloc_past _ _ _ (by simp)]; simp [World.cell?_alloc_at]
    · simp [World.cell?_alloc_at]
  obtain ⟨hm1, A1, cap1, rfl, -⟩ := hps
  obtain ⟨A2, cap2, rfl, -⟩ := hns
  subst e1
  clear hl hm hle hlen
  generalize l.worth (look ps ns) = X at *
  go_enter Tryd.func8, Tryd.ntmps8
  go_wp2_with (go_at_call 16; refine (HW.out _).mono ?_)
  rintro e w1 ⟨rfl, hb⟩
  have HB := hide hb
  clear hb
  go_wp2_with fail
  go_ret
  exact ⟨rfl, HB.out⟩

end Go.Proofs.YtpdoegjddiaaoaaDoor
