/- The contract of the scanner's number, at digits. (The library's contracts of strconv.Atoi, laid at this program's numbers.) -/
import Derived.Test.YtmpepnckfghepaaDoorLays
import Derived.Shelf.Strconv.AtoiErr
import Derived.Test.YtmpepnckfghepaaDoorScan
namespace Go.Proofs.YtmpepnckfghepaaDoor
open Go.RowKit

/-- What digits mean, if they mean at most that. -/
def numOf (d : ByteArray) (most : Int) : Option Int :=
  if 1 < d.size ∧ at_ d 0 = 48 then none else match Lib.atoiAll d.data.toList with | .ok v => if most < v then none else some v | _ => none

/-- Digits alone. -/
def Digs (d : ByteArray) : Prop := ∀ c ∈ d.data.toList, 48 ≤ c.toNat ∧ c.toNat ≤ 57

theorem digits_uint : ∀ (l : List UInt8) (acc : Nat), (∀ c ∈ l, 48 ≤ c.toNat ∧ c.toNat ≤ 57) → (∃ u, Lib.parseUint10 acc l = .ok u) ∨ Lib.parseUint10 acc l = .range
  | [], acc, _ => .inl ⟨acc, rfl⟩
  | c :: r, acc, h => by
    simp only [Lib.parseUint10]
    rw [if_pos (h c (by simp))]
    split
    · exact .inr rfl
    · split
      · exact .inr rfl
      · exact digits_uint r _ fun x hx => h x (by simp [hx])

theorem digits_int (l : List UInt8) (h : ∀ c ∈ l, 48 ≤ c.toNat ∧ c.toNat ≤ 57) (hne : l ≠ []) : (∃ v, Lib.atoiAll l = .ok v) ∨ Lib.atoiAll l = .range := by
  cases l with
  | nil => exact absurd rfl hne
  | cons c r =>
    have hc := h c (by simp)
    rw [Lib.atoiAll_plain c r (by omega) (by omega)]
    unfold Lib.parseMag
    rw [if_neg (by simp)]
    rcases digits_uint (c :: r) 0 h with ⟨u, e⟩ | e
    · rw [e]
      unfold Lib.signless
      dsimp only
      split
      · exact .inr rfl
      · exact .inl ⟨_, rfl⟩
    · rw [e]; exact .inr rfl

/-- strconv.Atoi at digits: a number, or an error. -/
theorem atoi_calls (d : ByteArray) (w : World) (hd : d.size ≤ 1000000000) (hg : Digs d) (ht : Tabs w) : Calls Tryd.prog 50 #[.string d] w fun e w' =>
    (∃ v : Int, Lib.atoiAll d.data.toList = .ok v ∧ e = .returned (.tuple #[.int .i64 v, .nilIface]) ∧ Below w.heap.size w w') ∨
    ((∀ v, Lib.atoiAll d.data.toList ≠ .ok v) ∧ ∃ (v : Int) (T : TypeId) (N : Nat), e = .returned (.tuple #[.int .i64 v, .iface T (.pointer (some ⟨N, 0, none⟩))]) ∧ Below w.heap.size w w') := by
  obtain ⟨ev, he, hev⟩ := ht.es
  obtain ⟨er, hr, her⟩ := ht.er
  by_cases hne : d.data.toList = []
  · have h0 : d.size = 0 := by have := congrArg List.length hne; simpa using this
    refine (Any.strconv_Atoi_err atLays d (by omega) (by rw [hne]; rfl) ev w he hev).mono ?_
    rintro e w' ⟨N, rfl, _, _, hb⟩
    exact .inr ⟨fun v hv => (by rw [hne] at hv; cases hv), _, _, N, rfl, hb⟩
  · rcases digits_int _ hg hne with ⟨v, h⟩ | h
    · refine (Any.strconv_Atoi_ok atLays d (by omega) v h w).mono ?_
      rintro e w' ⟨rfl, hw⟩
      refine .inl ⟨v, h, rfl, ?_⟩
      rcases hw with rfl | ⟨t, rfl⟩
      · exact Below.refl _ _
      · exact Lib.bytesWorld_below _ _ _
    · refine (Any.strconv_Atoi_range atLays d (by omega) h er w hr her).mono ?_
      rintro e w' ⟨N, rfl, _, _, hb⟩
      exact .inr ⟨fun v hv => (by rw [h] at hv; cases hv), _, _, N, rfl, hb⟩

set_option maxRecDepth 100000 in
set_option maxHeartbeats 4000000 in
theorem number_calls (d : ByteArray) (most : Int) (w : World) (hd : d.size ≤ 1000000000) (hg : Digs d) (ht : Tabs w) :
    Calls Tryd.prog 46 #[.string d, .int .i64 most] w fun e w' => e = .returned (.tuple #[.int .i64 ((numOf d most).getD 0), .bool (numOf d most).isSome]) ∧ Below w.heap.size w w' := by
  have K := hide (atoi_calls d w hd hg ht)
  by_cases h1 : 1 < d.size
  · have e1 : decide ((1 : Int) < (d.size : Int)) = true := by simp; omega
    have e1' : ((d.size : Int) > 1) := by omega
    by_cases h2 : at_ d 0 = 48
    · have hn : numOf d most = none := by unfold numOf; rw [if_pos ⟨h1, h2⟩]
      have e2 : (((d[0]'(by omega)).toNat : Int) == 48) = true := by rw [at_eq (by omega), h2]; rfl
      rw [hn]
      clear hn h2
      go_enter Tryd.func46, Tryd.ntmps46
      go_wp2_with fail
      go_ret2
      exact ⟨rfl, Below.refl _ _⟩
    · have hn : Hid (numOf d most = match Lib.atoiAll d.data.toList with | .ok v => if most < v then none else some v | _ => none) := by unfold Hid numOf; rw [if_neg (fun h => h2 h.2)]
      have e2 : (((d[0]'(by omega)).toNat : Int) == 48) = false := by rw [at_eq (by omega)]; simp; omega
      clear h2
      go_enter Tryd.func46, Tryd.ntmps46
      go_wp2_with (go_at_call 50; refine K.out.mono ?_)
      rintro e w' (⟨v, hv, rfl, hb⟩ | ⟨hv, v, T, N, rfl, hb⟩)
      · have HB := hide hb
        clear hb
        by_cases hlt : most < v
        · have e3 : decide (most < v) = true := by simp [hlt]
          have HN : Hid (numOf d most = none) := by unfold Hid; rw [hn.out, hv]; simp [hlt]
          clear hv hlt
          go_wp2_with fail
          go_ret2
          rw [HN.out]
          exact ⟨rfl, HB.out⟩
        · have e3 : decide (most < v) = false := by simp; omega
          have HN : Hid (numOf d most = some v) := by unfold Hid; rw [hn.out, hv]; simp [hlt]
          clear hv hlt
          go_wp2_with fail
          go_ret2
          rw [HN.out]
          exact ⟨rfl, HB.out⟩
      · have HB := hide hb
        have HN : Hid (numOf d most = none) := by
          unfold Hid; rw [hn.out]
          split
          · rename_i v' hv'; exact absurd hv' (hv v')
          · rfl
        clear hb hv
        go_wp2_with fail
        go_ret2
        rw [HN.out]
        exact ⟨rfl, HB.out⟩
  · have e1 : decide ((1 : Int) < (d.size : Int)) = false := by simp; omega
    have hn : Hid (numOf d most = match Lib.atoiAll d.data.toList with | .ok v => if most < v then none else some v | _ => none) := by unfold Hid numOf; rw [if_neg (fun h => h1 h.1)]
    clear h1
    go_enter Tryd.func46, Tryd.ntmps46
    go_wp2_with (go_at_call 50; refine K.out.mono ?_)
    rintro e w' (⟨v, hv, rfl, hb⟩ | ⟨hv, v, T, N, rfl, hb⟩)
    · have HB := hide hb
      clear hb
      by_cases hlt : most < v
      · have e3 : decide (most < v) = true := by simp [hlt]
        have HN : Hid (numOf d most = none) := by unfold Hid; rw [hn.out, hv]; simp [hlt]
        clear hv hlt
        go_wp2_with fail
        go_ret2
        rw [HN.out]
        exact ⟨rfl, HB.out⟩
      · have e3 : decide (most < v) = false := by simp; omega
        have HN : Hid (numOf d most = some v) := by unfold Hid; rw [hn.out, hv]; simp [hlt]
        clear hv hlt
        go_wp2_with fail
        go_ret2
        rw [HN.out]
        exact ⟨rfl, HB.out⟩
    · have HB := hide hb
      have HN : Hid (numOf d most = none) := by
        unfold Hid; rw [hn.out]
        split
        · rename_i v' hv'; exact absurd hv' (hv v')
        · rfl
      clear hb hv
      go_wp2_with fail
      go_ret2
      rw [HN.out]
      exact ⟨rfl, HB.out⟩

end Go.Proofs.YtmpepnckfghepaaDoor
