/- The contracts of the document's functions of bytes and of texts: letter, digit, piece, number, among, word. -/
import Derived.Test.YtekfledccpeblaaGreatDoorXm

namespace Go.Proofs.YtekfledccpeblaaGreatDoor
open Go.RowKit

set_option maxHeartbeats 400000 in
theorem letter_calls (c : Nat) (w : World) : Calls Tryz.prog 43 #[.int .u8 (c : Nat)] w fun e w' => e = .returned (.bool (alphaB c)) ∧ w' = w := by
  go_enter Tryz.func43, Tryz.ntmps43
  go_wp2
  all_goals
    go_ret
    refine ⟨ret_bool ?_, rfl⟩
    rw [Bool.eq_iff_iff]
    simp [alphaB]
    try omega

set_option maxHeartbeats 400000 in
theorem digit_calls (c : Nat) (w : World) : Calls Tryz.prog 46 #[.int .u8 (c : Nat)] w fun e w' => e = .returned (.bool (digitB c)) ∧ w' = w := by
  go_enter Tryz.func46, Tryz.ntmps46
  go_wp2
  all_goals
    go_ret
    refine ⟨ret_bool ?_, rfl⟩
    rw [Bool.eq_iff_iff]
    simp [digitB]
    try omega

set_option maxRecDepth 100000 in
set_option maxHeartbeats 4000000 in
theorem piece_calls (s : ByteArray) (p : Nat) (w : World) (hp : p ≤ s.size) (hs : s.size ≤ 200000) :
    Calls Tryz.prog 44 #[.string s, .int .i64 (p : Nat)] w fun e w' => e = .returned (.int .i64 (runTo partB s p : Nat)) ∧ w' = w := by
  go_enter Tryz.func44, Tryz.ntmps44
  go_wp2_with fail
  go_loopg [1] (s.size - p) (fun g v wr => ∃ k : Nat, k + g = s.size ∧ v = .int .i64 (k : Nat) ∧ Hid (runTo partB s k = runTo partB s p) ∧ wr = w)
  case atStart => exact ⟨p, by omega, rfl, rfl, rfl⟩
  case round =>
    obtain ⟨k, hkg, rfl, HR, rfl⟩ := hrel
    by_cases hk : k < s.size
    · have e1 : decide ((k : Int) < (s.size : Int)) = true := by simp; omega
      have KL := hide (letter_calls (at_ s k) wr)
      have KD := hide (digit_calls (at_ s k) wr)
      rw [← at_eq hk] at KL KD
      have HP : Hid (partB (at_ s k) = (alphaB (at_ s k) || digitB (at_ s k) || at_ s k == 95 || at_ s k == 39)) := rfl
      rw [← at_eq hk] at HP
      have HSt : Hid (partB (s[k]'hk).toNat = true → runTo partB s (k + 1) = runTo partB s p) := hide fun hf => (runTo_step hk (by rw [← at_eq hk]; exact hf)).symm.trans HR.out
      have HEn : Hid (partB (s[k]'hk).toNat = false → k = runTo partB s p) := hide fun hf => (runTo_stop (s := s) (k := k) (by rw [← at_eq hk]; exact hf)).symm.trans HR.out
      clear HR
      generalize alphaB (s[k]'hk).toNat = a at *
      generalize digitB (s[k]'hk).toNat = d at *
      cases a <;> cases d
      case false.false =>
        by_cases h1 : (s[k]'hk).toNat = 95
        · have d1 : (((s[k]'hk).toNat : Int) == 95) = true := by simp; omega
          have HN := hide (HSt.out (by rw [HP.out]; simp [h1]))
          clear h1 HP HSt HEn
          go_wp2_with (first | (go_at_call 43; refine KL.out.mono ?_; rintro e w' ⟨rfl, rfl⟩) | (go_at_call 46; refine KD.out.mono ?_; rintro e w' ⟨rfl, rfl⟩))
          go_roundg (s.size - (k + 1))
          case measure => omega
          case rel => exact ⟨k + 1, by omega, by go_num, HN, rfl⟩
        · have d1 : (((s[k]'hk).toNat : Int) == 95) = false := by simp; omega
          by_cases h2 : (s[k]'hk).toNat = 39
          · have d2 : (((s[k]'hk).toNat : Int) == 39) = true := by simp; omega
            have HN := hide (HSt.out (by rw [HP.out]; simp [h2]))
            clear h1 h2 HP HSt HEn
            go_wp2_with (first | (go_at_call 43; refine KL.out.mono ?_; rintro e w' ⟨rfl, rfl⟩) | (go_at_call 46; refine KD.out.mono ?_; rintro e w' ⟨rfl, rfl⟩))
            go_roundg (s.size - (k + 1))
            case measure => omega
            case rel => exact ⟨k + 1, by omega, by go_num, HN, rfl⟩
          · have d2 : (((s[k]'hk).toNat : Int) == 39) = false := by simp; omega
            have HN := hide (HEn.out (by rw [HP.out]; simp [h1, h2]))
            clear h1 h2 HP HSt HEn
            go_wp2_with (first | (go_at_call 43; refine KL.out.mono ?_; rintro e w' ⟨rfl, rfl⟩) | (go_at_call 46; refine KD.out.mono ?_; rintro e w' ⟨rfl, rfl⟩))
            go_ret
            exact ⟨ret_int (by rw [← HN.out]), rfl⟩
      all_goals
        have HN := hide (HSt.out (by rw [HP.out]; simp))
        clear HP HSt HEn
        go_wp2_with (first | (go_at_call 43; refine KL.out.mono ?_; rintro e w' ⟨rfl, rfl⟩) | (go_at_call 46; refine KD.out.mono ?_; rintro e w' ⟨rfl, rfl⟩))
        go_roundg (s.size - (k + 1))
        case measure => omega
        case rel => exact ⟨k + 1, by omega, by go_num, HN, rfl⟩
    · have HRn := hide ((runTo_end (f := partB) (s := s) (k := k) (by omega)).symm.trans HR.out)
      have e1 : decide ((k : Int) < (s.size : Int)) = false := by simp; omega
      go_wp2_with fail
      go_ret
      exact ⟨ret_int (by rw [← HRn.out]), rfl⟩
theorem decF_take : ∀ (l : List UInt8) (k acc : Nat) (h : k < l.length), decF acc (l.take (k + 1)) = decF acc (l.take k) * 10 + ((l[k]).toNat - 48)
  | [], _, _, h => absurd h (by simp)
  | c :: r, 0, acc, _ => rfl
  | c :: r, k + 1, acc, h => by
    exact decF_take r k (acc * 10 + (c.toNat - 48)) (by simpa using h)

theorem decF_small (l : List UInt8) (h : ∀ c ∈ l, 48 ≤ c.toNat ∧ c.toNat ≤ 57) (hl : l.length ≤ 5) (k : Nat) : decF 0 (l.take k) < 100000 := by
  have h1 := decF_lt (l.take k) 0 fun c hc => h c (List.mem_of_mem_take hc)
  have h2 : (l.take k).length ≤ 5 := by rw [List.length_take]; omega
  rw [Nat.zero_add, Nat.one_mul] at h1
  exact Nat.lt_of_lt_of_le h1 (Nat.pow_le_pow_right (by decide) h2)

set_option maxHeartbeats 1000000 in
theorem rnumber_calls (d : ByteArray) (w : World) (hd : Digs d) (h5 : d.size ≤ 5) : Calls Tryz.prog 51 #[.string d] w fun e w' => e = .returned (.int .i64 (decV d : Nat)) ∧ w' = w := by
  have hlen : d.data.toList.length = d.size := by rw [Array.length_toList]; rfl
  have HD := hide hd
  have HL := hide hlen
  clear hd hlen
  go_enter Tryz.func51, Tryz.ntmps51
  go_wp2_with fail
  go_loopg [3, 4] (d.size) (fun g v i wr => ∃ k : Nat, k + g = d.size ∧ v = .int .i64 (decF 0 (d.data.toList.take k) : Nat) ∧ i = .int .i64 k ∧ wr = w)
  case atStart => exact ⟨0, by omega, rfl, rfl, rfl⟩
  case round =>
    obtain ⟨k, hkg, rfl, rfl, rfl⟩ := hrel
    have hb1 := decF_small _ HD.out (by rw [HL.out]; exact h5) k
    have hb2 := decF_small _ HD.out (by rw [HL.out]; exact h5) (k + 1)
    by_cases hk : k < d.size
    · have hkl : k < d.data.toList.length := by rw [HL.out]; exact hk
      have hc := HD.out _ (List.getElem_mem hkl)
      have hst := hide (decF_take d.data.toList k 0 hkl)
      have e1 : decide ((k : Int) < (d.size : Int)) = true := by simp; omega
      have hget : (d[k]'hk) = d.data.toList[k] := rfl
      have hx : 48 ≤ (d[k]'hk).toNat ∧ (d[k]'hk).toNat ≤ 57 := by rw [hget]; exact hc
      have hst2 : Hid (decF 0 (d.data.toList.take (k + 1)) = decF 0 (d.data.toList.take k) * 10 + ((d[k]'hk).toNat - 48)) := hst.out
      clear hst hc hget
      rw [hst2.out] at hb2
      generalize decF 0 (d.data.toList.take k) = D at *
      go_wp2_with fail
      go_roundg (d.size - (k + 1))
      case measure => omega
      case rel => exact ⟨k + 1, by omega, by rw [hst2.out]; exact congrArg _ (by omega), by go_num, rfl⟩
    · have e1 : decide ((k : Int) < (d.size : Int)) = false := by simp; omega
      go_wp2_with fail
      go_ret
      exact ⟨by rw [List.take_of_length_le (by rw [HL.out]; omega)]; rfl, rfl⟩

/-- Strings lie in a row. -/
def StrsAt (w : World) (b : Nat) (l : List ByteArray) : Prop := ∀ i (h : i < l.length), w.cell? ⟨b, i, none⟩ = some (.string l[i])

set_option maxRecDepth 100000 in
set_option maxHeartbeats 4000000 in
theorem among_calls (t : ByteArray) (l : List ByteArray) (b c : Nat) (w : World) (h : StrsAt w b l) (hl : l.length ≤ 100) :
    Calls Tryz.prog 69 #[.string t, .slice (some ⟨b, 0, none⟩) l.length c] w fun e w' => e = .returned (.bool (l.any fun q => decide (t = q))) ∧ w' = w := by
  have H := hide h
  clear h
  go_enter Tryz.func69, Tryz.ntmps69
  go_wp2_with fail
  go_loopg [5] l.length (fun g v wr => ∃ k : Nat, k + g = l.length ∧ v = .int .i64 (k : Nat) ∧ Hid (((l.drop k).any fun q => decide (t = q)) = l.any fun q => decide (t = q)) ∧ wr = w)
  case atStart => exact ⟨0, by omega, rfl, rfl, rfl⟩
  case round =>
    obtain ⟨k, hkg, rfl, HR, rfl⟩ := hrel
    by_cases hk : k < l.length
    · have e1 : decide ((k : Int) < (l.length : Int)) = true := by simp; omega
      have hc := H.out k hk
      have HD : Hid (l.drop k = l[k] :: l.drop (k + 1)) := hide (List.drop_eq_getElem_cons hk)
      by_cases hq : t = l[k]
      · have q1 : (l[k].toList == t.toList) = true := sameStr_pos hq.symm
        have HN : Hid (true = l.any fun q => decide (t = q)) := hide (by rw [← HR.out, HD.out]; simp [← hq])
        clear HR HD hq
        generalize l[k] = x at *
        go_wp2_with fail
        go_ret
        exact ⟨ret_bool HN.out, rfl⟩
      · have q1 : (l[k].toList == t.toList) = false := sameStr_neg fun e => hq e.symm
        have HN : Hid (((l.drop (k + 1)).any fun q => decide (t = q)) = l.any fun q => decide (t = q)) := hide (by rw [← HR.out, HD.out, List.any_cons, decide_eq_false hq, Bool.false_or])
        clear HR HD hq
        generalize l[k] = x at *
        go_wp2_with fail
        go_roundg (l.length - (k + 1))
        case measure => omega
        case rel => exact ⟨k + 1, by omega, by go_num, HN, rfl⟩
    · have e1 : decide ((k : Int) < (l.length : Int)) = false := by simp; omega
      have HN : Hid (false = l.any fun q => decide (t = q)) := hide (by rw [← HR.out, List.drop_eq_nil_of_le (by omega)]; rfl)
      go_wp2_with fail
      go_ret
      exact ⟨ret_bool HN.out, rfl⟩

theorem StrsAt.new (w : World) (l : List ByteArray) (T : TypeId) : StrsAt (w.alloc (.cells (l.map Value.string).toArray T)) w.heap.size l := fun i hi => by
  simp
set_option maxRecDepth 100000 in
set_option maxHeartbeats 4000000 in
theorem word_calls (t : ByteArray) (w : World) : Calls Tryz.prog 45 #[.string t] w fun e w' => e = .returned (.bool (isWord t)) ∧ Below w.heap.size w w' := by
  have HA := hide (among_calls t lwords w.heap.size 14 _ (StrsAt.new w lwords 9) (by decide))
  have HB : Hid (Below w.heap.size w (w.alloc (.cells (lwords.map Value.string).toArray 9))) := (Below.refl _ _).alloc (Nat.le_refl _) _
  have HW : Hid ((lwords.any fun q => decide (t = q)) = isWord t) := rfl
  rw [HW.out] at HA
  generalize isWord t = b at *
  go_enter Tryz.func45, Tryz.ntmps45
  go_wp2_with (go_at_call 69; refine HA.out.mono ?_; rintro e w' ⟨rfl, rfl⟩)
  go_ret
  exact ⟨rfl, HB.out⟩

end Go.Proofs.YtekfledccpeblaaGreatDoor
