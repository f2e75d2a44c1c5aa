/- The contracts of the document's name, peek, number. -/
import Derived.Test.YtahcgpnjlmpkpaaGreatDoorParse
import Derived.Test.YtahcgpnjlmpkpaaGreatDoorTRead
namespace Go.Proofs.YtahcgpnjlmpkpaaGreatDoor
open Go.RowKit

set_option maxHeartbeats 1000000 in
theorem name_good (rb : Nat) (s : ByteArray) (p a : Nat) (w : World) (hs : s.size ≤ 20000) (hp : p ≤ s.size) (h : RdAt w rb s p 0 a) (ht : isNameB (tok s p).t = true) :
    Calls Tryz.prog 26 #[.pointer (some ⟨rb, 0, none⟩)] w fun e w' => e = .returned (.string (tok s p).t) ∧ RdAt w' rb s ((tok s p).at_ + (tok s p).t.size) 0 a ∧ Touched w rb w' := by
  have HT := hide (token_calls s p rb w hs hp h.c0 h.c1)
  obtain ⟨k1, k2, k3, k4⟩ := tok_facts hp
  have hok : (tok s p).ok = true := by
    cases e : (tok s p).ok
    · exact absurd (k4 e) (isNameB_ne ht)
    · rfl
  have HN := hide (fun W => isName_calls (tok s p).t W (by omega))
  rw [hok] at HT
  rw [ht] at HN
  have c1 := h.c1
  have c2 := h.c2
  have f1 := h.f 1
  have H := hide h
  clear h ht k4 hok
  generalize (tok s p).t = t at *
  generalize (tok s p).at_ = k at *
  go_enter Tryz.func26, Tryz.ntmps26
  go_wp2_with (first
    | (go_at_call 21; refine HT.out.mono ?_; rintro e w' ⟨rfl, rfl⟩)
    | (go_at_call 43; refine (HN.out _).mono ?_; rintro e w' ⟨rfl, rfl⟩))
  go_ret
  exact ⟨rfl, H.out.setP _, Touched.set _ rb (a := ⟨rb, 1, none⟩) rfl _⟩

set_option maxHeartbeats 1000000 in
theorem name_bad (rb : Nat) (s : ByteArray) (p a : Nat) (w : World) (hs : s.size ≤ 20000) (hp : p ≤ s.size) (h : RdAt w rb s p 0 a) (ht : isNameB (tok s p).t = false) :
    Calls Tryz.prog 26 #[.pointer (some ⟨rb, 0, none⟩)] w fun e w' => e = .returned (.string ⟨#[]⟩) ∧ RdAt w' rb s p 1 (tok s p).at_ ∧ Touched w rb w' := by
  have HT := hide (token_calls s p rb w hs hp h.c0 h.c1)
  obtain ⟨k1, k2, k3, k4⟩ := tok_facts hp
  have HN := hide (fun W => isName_calls (tok s p).t W (by omega))
  rw [ht] at HN
  have HF := hide (fun b => fail_zero rb s p a b w h)
  clear h ht k4 k3 k2 k1
  generalize (tok s p).t = t at *
  generalize (tok s p).at_ = k at *
  cases hok : (tok s p).ok with
  | true =>
    rw [hok] at HT
    clear hok
    go_enter Tryz.func26, Tryz.ntmps26
    go_wp2_with (first
      | (go_at_call 21; refine HT.out.mono ?_; rintro e w' ⟨rfl, rfl⟩)
      | (go_at_call 43; refine (HN.out _).mono ?_; rintro e w' ⟨rfl, rfl⟩)
      | (go_at_call 22; refine (HF.out _).mono ?_; rintro e w2 ⟨rfl, hr, ht⟩; have HR := hide hr; have HTo := hide ht; have c2 := hr.c2; clear hr ht))
    go_ret
    exact ⟨rfl, HR.out, HTo.out⟩
  | false =>
    rw [hok] at HT
    clear hok
    go_enter Tryz.func26, Tryz.ntmps26
    go_wp2_with (first
      | (go_at_call 21; refine HT.out.mono ?_; rintro e w' ⟨rfl, rfl⟩)
      | (go_at_call 43; refine (HN.out _).mono ?_; rintro e w' ⟨rfl, rfl⟩)
      | (go_at_call 22; refine (HF.out _).mono ?_; rintro e w2 ⟨rfl, hr, ht⟩; have HR := hide hr; have HTo := hide ht; have c2 := hr.c2; clear hr ht))
    go_ret
    exact ⟨rfl, HR.out, HTo.out⟩

set_option maxHeartbeats 1000000 in
theorem peek_calls (rb : Nat) (s : ByteArray) (p a : Nat) (w : World) (hs : s.size ≤ 20000) (hp : p ≤ s.size) (h : RdAt w rb s p 0 a) :
    Calls Tryz.prog 27 #[.pointer (some ⟨rb, 0, none⟩)] w fun e w' => e = .returned (.string (tok s p).t) ∧ w' = w := by
  have HT := hide (token_calls s p rb w hs hp h.c0 h.c1)
  obtain ⟨k1, k2, k3, k4⟩ := tok_facts hp
  have c2 := h.c2
  cases hok : (tok s p).ok with
  | true =>
    rw [hok] at HT
    clear h k1 k2 k3 k4 hok
    generalize (tok s p).t = t at *
    generalize (tok s p).at_ = k at *
    go_enter Tryz.func27, Tryz.ntmps27
    go_wp2_with (go_at_call 21; refine HT.out.mono ?_; rintro e w' ⟨rfl, rfl⟩)
    go_ret
    exact ⟨rfl, rfl⟩
  | false =>
    rw [hok] at HT
    have H4 := hide (k4 hok)
    clear h k1 k2 k3 k4 hok
    generalize (tok s p).t = t at *
    generalize (tok s p).at_ = k at *
    go_enter Tryz.func27, Tryz.ntmps27
    go_wp2_with (go_at_call 21; refine HT.out.mono ?_; rintro e w' ⟨rfl, rfl⟩)
    go_ret
    exact ⟨by rw [H4.out]; rfl, rfl⟩

theorem decF_take : ∀ (l : List UInt8) (k acc : Nat) (h : k < l.length), decF acc (l.take (k + 1)) = decF acc (l.take k) * 10 + ((l[k]).toNat - 48)
  | [], _, _, h => absurd h (by simp)
  | c :: r, 0, acc, _ => rfl
  | c :: r, k + 1, acc, h => by
    exact decF_take r k (acc * 10 + (c.toNat - 48)) (by simpa using h)

theorem decF_small (l : List UInt8) (h : ∀ c ∈ l, 48 ≤ c.toNat ∧ c.toNat ≤ 57) (hl : l.length ≤ 5) (k : Nat) : decF 0 (l.take k) < 100000 := by
  have h1 := decF_lt (l.take k) 0 fun c hc => h c (List.mem_of_mem_take hc)
  have h2 : (l.take k).length ≤ 5 := by rw [List.length_take]; omega
  rw [Nat.zero_add, Nat.one_mul] at h1
  exact Nat.lt_of_lt_of_le h1 (Nat.pow_le_pow_right (by decide) h2)

set_option maxHeartbeats 1000000 in
theorem rnumber_calls (d : ByteArray) (w : World) (hd : Digs d) (h5 : d.size ≤ 5) : Calls Tryz.prog 24 #[.string d] w fun e w' => e = .returned (.int .i64 (decV d : Nat)) ∧ w' = w := by
  have hlen : d.data.toList.length = d.size := by rw [Array.length_toList]; rfl
  have HD := hide hd
  have HL := hide hlen
  clear hd hlen
  go_enter Tryz.func24, Tryz.ntmps24
  go_wp2_with fail
  go_loopg [3, 4] (d.size) (fun g v i wr => ∃ k : Nat, k + g = d.size ∧ v = .int .i64 (decF 0 (d.data.toList.take k) : Nat) ∧ i = .int .i64 k ∧ wr = w)
  case atStart => exact ⟨0, by omega, rfl, rfl, rfl⟩
  case round =>
    obtain ⟨k, hkg, rfl, rfl, rfl⟩ := hrel
    have hb1 := decF_small _ HD.out (by rw [HL.out]; exact h5) k
    have hb2 := decF_small _ HD.out (by rw [HL.out]; exact h5) (k + 1)
    by_cases hk : k < d.size
    · have hkl : k < d.data.toList.length := by rw [HL.out]; exact hk
      have hc := HD.out _ (List.getElem_mem hkl)
      have hst := hide (decF_take d.data.toList k 0 hkl)
      have e1 : decide ((k : Int) < (d.size : Int)) = true := by simp; omega
      have hget : (d[k]'hk) = d.data.toList[k] := rfl
      have hx : 48 ≤ (d[k]'hk).toNat ∧ (d[k]'hk).toNat ≤ 57 := by rw [hget]; exact hc
      have hst2 : Hid (decF 0 (d.data.toList.take (k + 1)) = decF 0 (d.data.toList.take k) * 10 + ((d[k]'hk).toNat - 48)) := hst.out
      clear hst hc hget
      rw [hst2.out] at hb2
      generalize decF 0 (d.data.toList.take k) = D at *
      go_wp2_with fail
      go_roundg (d.size - (k + 1))
      case measure => omega
      case rel => exact ⟨k + 1, by omega, by rw [hst2.out]; exact congrArg _ (by omega), by go_num, rfl⟩
    · have e1 : decide ((k : Int) < (d.size : Int)) = false := by simp; omega
      go_wp2_with fail
      go_ret
      exact ⟨by rw [List.take_of_length_le (by rw [HL.out]; omega)]; rfl, rfl⟩

end Go.Proofs.YtahcgpnjlmpkpaaGreatDoor
