/- Parts of a printed command are read again, the same but for places: no walk. -/
import Derived.Test.YtockffblncdikaaGreatDoorFk
namespace Go.Proofs.YtockffblncdikaaGreatDoor
open Go.RowKit
set_option maxRecDepth 100000
set_option maxHeartbeats 16000000
def erT (t : Tc) : Tc := ⟨t.kd, 0, t.nms, t.num, t.xs.map er⟩
def TcT (s : ByteArray) (m : Nat) (txt : List UInt8) (t : Tc) : Prop := ∀ p, Has s p txt -> Bd0 s (p + txt.length) -> ∃ t', erT t' = erT t /\ tacticF s m (FS.on s p) = (t', FS.on s (p + txt.length))
abbrev tacW (k : Nat) : ByteArray := tacWords.getD (k - 1) ⟨#[]⟩
theorem tacW_ok {k : Nat} (h1 : 1 <= k) (h2 : k <= 13) : LNm (tacW k) /\ wordNo (tacW k) tacWords 1 = k := by
 obtain rfl | rfl | rfl | rfl | rfl | rfl | rfl | rfl | rfl | rfl | rfl | rfl | rfl : k = 1 \/ k = 2 \/ k = 3 \/ k = 4 \/ k = 5 \/ k = 6 \/ k = 7 \/ k = 8 \/ k = 9 \/ k = 10 \/ k = 11 \/ k = 12 \/ k = 13 := by omega
 all_goals exact ⟨⟨by decide +kernel, by decide +kernel, by decide +kernel, by decide +kernel, by decide +kernel⟩, by decide +kernel⟩
section
variable {s : ByteArray} {m : Nat}
theorem tac_start {k p : Nat} (h1 : 1 <= k) (h2 : k <= 13) (h : Has s p (tacW k).data.toList) (he : Ends s (p + (tacW k).data.toList.length)) :
 (if (FS.on s p).kin 1 = true then wordNo (FS.on s p).t.t tacWords 1 else 0) = k /\ (FS.on s p).step s = FS.on s (p + (tacW k).data.toList.length) := by
 obtain ⟨a1, a2⟩ := tacW_ok h1 h2; have hx := a1.toks h he; refine ⟨?_, on_step hx⟩; rw [if_pos (by rw [on_kin hx]; rfl)]; have e1 : (FS.on s p).t.t = tacW k := by unfold FS.on; rw [hx]
 rw [e1, a2]
theorem Bd0.ends {p : Nat} (h : Bd0 s p) : Ends s p := h.b2.b3.b4.ends
theorem Bd0.kin1 {p : Nat} (h : Bd0 s p) : (FS.on s p).kin 1 = false := by
 have := h.b2.b3.beg; unfold begins at this
 simp only [Bool.or_eq_false_iff] at this
 exact this.1.1.1.1.1.1
theorem bare_tac {k a : Nat} (hk : k = 4 \/ k = 5 \/ k = 12 \/ k = 13) : TcT s m (tacW k).data.toList ⟨k, a, [], 0, []⟩ := fun p hp hb => by
 obtain ⟨e1, e2⟩ := tac_start (k := k) (by omega) (by omega) hp hb.ends; refine ⟨⟨k, (FS.on s p).t.at_, [], 0, []⟩, rfl, ?_⟩; unfold tacticF
 simp only
 rw [e1, e2, if_neg (by omega), if_neg (by omega), if_neg (by omega), if_neg (by omega), if_neg (by omega), if_neg (by omega)]
theorem ex_tac {k a : Nat} {tx : List UInt8} {e : Ex} (hk : k = 2 \/ k = 3 \/ k = 8 \/ k = 11) (he : ExT s m tx e) : TcT s (m + 1) ((tacW k).data.toList ++ [32] ++ tx) ⟨k, a, [], 0, [e]⟩ := fun p hp hb => by
 obtain ⟨h1, h2, h3⟩ := hp.mid; have el : p + ((tacW k).data.toList ++ [32] ++ tx).length = p + (tacW k).data.toList.length + 1 + tx.length := by simp only [List.length_append, List.length_cons, List.length_nil]; omega
 rw [el] at hb ⊢
 change Has s (p + (tacW k).data.toList.length + 1) _ at h3
 obtain ⟨e1, e2⟩ := tac_start (k := k) (by omega) (by omega) h1 (ends_of h2 rfl (by decide)); rw [on_blank h2] at e2; obtain ⟨e', ee, re⟩ := he _ h3 hb
 change exprN s (m + 1) (FS.on s (p + (tacW k).data.toList.length + 1)) = _ at re
 refine ⟨⟨k, (FS.on s p).t.at_, [], 0, [e']⟩, by unfold erT; simp [ee], ?_⟩; unfold tacticF
 simp only
 rw [e1, e2, if_neg (by omega), if_neg (by omega), if_neg (by omega), if_neg (by omega), if_pos (by omega), re]
theorem one_tac {k a : Nat} {q : ByteArray} (hk : k = 6 \/ k = 7) (hq : LNm q) : TcT s m ((tacW k).data.toList ++ [32] ++ q.data.toList) ⟨k, a, [q], 0, []⟩ := fun p hp hb => by
 obtain ⟨h1, h2, h3⟩ := hp.mid
 have el : p + ((tacW k).data.toList ++ [32] ++ q.data.toList).length = p + (tacW k).data.toList.length + 1 + q.data.toList.length := by simp only [List.length_append, List.length_cons, List.length_nil]; omega
 rw [el] at hb ⊢
 change Has s (p + (tacW k).data.toList.length + 1) _ at h3
 obtain ⟨e1, e2⟩ := tac_start (k := k) (by omega) (by omega) h1 (ends_of h2 rfl (by decide)); rw [on_blank h2] at e2; have hn := hq.toks h3 hb.ends; refine ⟨⟨k, (FS.on s p).t.at_, [q], 0, []⟩, rfl, ?_⟩; unfold tacticF
 simp only
 rw [e1, e2, if_neg (by omega), if_neg (by omega), if_pos hk]; rw [name_on hn]
theorem both_tac {a : Nat} {q : ByteArray} {tx : List UInt8} {e : Ex} (hq : LNm q) (he : ExT s m tx e) : TcT s (m + 1) ((tacW 9).data.toList ++ [32] ++ q.data.toList ++ [32, 58, 32] ++ tx) ⟨9, a, [q], 0, [e]⟩ := fun p hp hb => by
 obtain ⟨hp1, hp2, hp3⟩ := hp.mid; obtain ⟨h1, h2, h3⟩ := hp1.mid
 have el : p + ((tacW 9).data.toList ++ [32] ++ q.data.toList).length = p + (tacW 9).data.toList.length + 1 + q.data.toList.length := by simp only [List.length_append, List.length_cons, List.length_nil]; omega
 have el2 : p + ((tacW 9).data.toList ++ [32] ++ q.data.toList ++ [32, 58, 32] ++ tx).length = p + (tacW 9).data.toList.length + 1 + q.data.toList.length + 3 + tx.length := by simp only [List.length_append, List.length_cons, List.length_nil]; omega
 rw [el2] at hb ⊢; rw [el] at hp2 hp3
 change Has s (p + (tacW 9).data.toList.length + 1 + q.data.toList.length + 3) tx at hp3
 change Has s (p + (tacW 9).data.toList.length + 1) _ at h3
 obtain ⟨e1, e2⟩ := tac_start (k := 9) (by omega) (by omega) h1 (ends_of h2 rfl (by decide)); rw [on_blank h2] at e2; obtain ⟨_, c2, c3, c4, _⟩ := colon_at hp2; have hn := hq.toks h3 c4
 obtain ⟨e', ee, re⟩ := he _ hp3 hb
 change exprN s (m + 1) _ = _ at re
 refine ⟨⟨9, (FS.on s p).t.at_, [q], 0, [e']⟩, by unfold erT; simp [ee], ?_⟩; unfold tacticF
 simp only
 rw [e1, e2]; rw [name_on hn]
 simp only
 rw [must_is c2, c3, re]
 rfl
theorem num_tac {a k : Nat} (hk : k < 100) : TcT s m ((tacW 10).data.toList ++ [32] ++ Lib.decDigits k) ⟨10, a, [], k, []⟩ := fun p hp hb => by
 obtain ⟨h1, h2, h3⟩ := hp.mid
 have el : p + ((tacW 10).data.toList ++ [32] ++ Lib.decDigits k).length = p + (tacW 10).data.toList.length + 1 + (Lib.decDigits k).length := by simp only [List.length_append, List.length_cons, List.length_nil]; omega
 rw [el] at hb ⊢
 change Has s (p + (tacW 10).data.toList.length + 1) _ at h3
 obtain ⟨e1, e2⟩ := tac_start (k := 10) (by omega) (by omega) h1 (ends_of h2 rfl (by decide)); rw [on_blank h2] at e2; have hn := lex_dec hk h3 (fun hl => hb.ends.dig hl)
 refine ⟨⟨10, (FS.on s p).t.at_, [], k, []⟩, rfl, ?_⟩; have e3 : (FS.on s (p + (tacW 10).data.toList.length + 1)).t.t = numB k := by unfold FS.on; rw [hn]
 unfold tacticF
 simp only
 rw [e1, e2, if_neg (by omega), if_neg (by omega), if_neg (by omega), if_neg (by omega), if_neg (by omega), if_pos rfl, if_pos (by rw [on_kin hn]; rfl), on_step hn, e3, dec_num hk]
def blanksT (l : List ByteArray) : List UInt8 := l.flatMap fun q => [32] ++ q.data.toList
theorem moreN_read : ∀ (l : List ByteArray) (k : Nat) (l0 : List ByteArray) (p : Nat), (∀ q ∈ l, LNm q) -> l.length <= k -> Has s p (blanksT l) -> Bd0 s (p + (blanksT l).length) -> moreN s k l0 (FS.on s p) = (l0 ++ l, FS.on s (p + (blanksT l).length)) /\ Ends s p
 | [], k, l0, p, _, _, _, hb => by
   have hb' : Bd0 s p := hb; refine ⟨?_, hb'.ends⟩
   have e : moreN s k l0 (FS.on s p) = (l0, FS.on s p) := by
    cases k with
    | zero => rfl
    | succ k => simp only [moreN]; rw [if_neg (by rw [hb'.kin1]; simp)]
   rw [e, List.append_nil]
   rfl
 | q :: l, 0, _, _, _, hk, _, _ => absurd hk (by simp)
 | q :: l, k + 1, l0, p, hq, hk, hp, hb => by
   have e0 : blanksT (q :: l) = [32] ++ q.data.toList ++ blanksT l := rfl; rw [e0] at hp hb ⊢; obtain ⟨h1, h2, h3⟩ := hp.mid
   have el : p + ([32] ++ q.data.toList ++ blanksT l).length = p + 1 + q.data.toList.length + (blanksT l).length := by simp only [List.length_append, List.length_cons, List.length_nil]; omega
   rw [el] at hb ⊢
   change Has s (p + 1) _ at h2
   change Has s (p + 1 + q.data.toList.length) _ at h3
   obtain ⟨r1, r2⟩ := moreN_read l k (l0 ++ [q]) _ (fun x hx => hq x (by simp [hx])) (by simp only [List.length_cons] at hk; omega) h3 hb; have hn := (hq q (by simp)).toks h2 r2; refine ⟨?_, ends_of h1 rfl (by decide)⟩
   simp only [moreN]
   rw [on_blank h1, if_pos (by rw [on_kin hn]; rfl), name_on hn]
   simp only
   rw [r1]
   simp
theorem intro_tac {a : Nat} {q : ByteArray} {l : List ByteArray} (hq : LNm q) (hl : ∀ x ∈ l, LNm x) (hm : l.length <= m) : TcT s m ((tacW 1).data.toList ++ [32] ++ (q.data.toList ++ blanksT l)) ⟨1, a, q :: l, 0, []⟩ := fun p hp hb => by
 obtain ⟨h1, h2, h3⟩ := hp.mid; have h4 := h3.left; have h5 := h3.right
 have el : p + ((tacW 1).data.toList ++ [32] ++ (q.data.toList ++ blanksT l)).length = p + (tacW 1).data.toList.length + 1 + q.data.toList.length + (blanksT l).length := by simp only [List.length_append, List.length_cons, List.length_nil]; omega
 rw [el] at hb ⊢
 change Has s (p + (tacW 1).data.toList.length + 1) _ at h4
 change Has s (p + (tacW 1).data.toList.length + 1 + q.data.toList.length) _ at h5
 obtain ⟨e1, e2⟩ := tac_start (k := 1) (by omega) (by omega) h1 (ends_of h2 rfl (by decide)); rw [on_blank h2] at e2; obtain ⟨r1, r2⟩ := moreN_read l m [q] _ hl hm h5 hb; have hn := hq.toks h4 r2
 refine ⟨⟨1, (FS.on s p).t.at_, q :: l, 0, []⟩, rfl, ?_⟩; unfold tacticF
 simp only
 rw [e1, e2, name_on hn]
 simp only
 rw [r1]
 rfl
theorem ext_more {e : Ex} (h : Again e) : ∃ N M, ∀ s n m, N <= n -> M <= m -> ExT s m (xtext n e) e := by
 obtain ⟨N, M, c, _, h⟩ := h; exact ⟨N, M, fun s n m hn hm => (h s n m hn hm).ex⟩
theorem tac_again {t : Tc} (h : GTc t) : ∃ N M, ∀ s n m, N <= n -> M <= m -> TcT s m (tacText n t) t := by
 cases h with
 | intro a q l hq hl =>
   refine ⟨0, l.length, fun s n m _ hm => ?_⟩; have e : tacText n ⟨1, a, q :: l, 0, []⟩ = (tacW 1).data.toList ++ [32] ++ (q.data.toList ++ blanksT l) := by unfold tacText blanksT; simp
   rw [e]; exact intro_tac hq hl hm
 | one k a q hk hq =>
   refine ⟨0, 0, fun s n m _ hm => ?_⟩
   have e : tacText n ⟨k, a, [q], 0, []⟩ = (tacW k).data.toList ++ [32] ++ q.data.toList := by
    unfold tacText
    simp only
    rw [if_neg (by omega), if_neg (by omega)]
    simp
   rw [e]; exact one_tac hk hq
 | both a q x hq hx =>
   obtain ⟨N, M, h⟩ := ext_more (gx_again hx); refine ⟨N, M + 1, fun s n m hn hm => ?_⟩; obtain ⟨j, rfl, hj⟩ := split1 (N := M) hm
   have e : tacText n ⟨9, a, [q], 0, [x]⟩ = (tacW 9).data.toList ++ [32] ++ q.data.toList ++ [32, 58, 32] ++ xtext n x := by unfold tacText; simp
   rw [e]; exact both_tac hq (h s n j hn hj)
 | ex k a x hk hx =>
   obtain ⟨N, M, h⟩ := ext_more (gx_again hx); refine ⟨N, M + 1, fun s n m hn hm => ?_⟩; obtain ⟨j, rfl, hj⟩ := split1 (N := M) hm
   have e : tacText n ⟨k, a, [], 0, [x]⟩ = (tacW k).data.toList ++ [32] ++ xtext n x := by
    unfold tacText
    simp only
    rw [if_neg (by omega), if_neg (by omega)]
    simp
   rw [e]; exact ex_tac hk (h s n j hn hj)
 | num a k hk =>
   refine ⟨0, 0, fun s n m _ hm => ?_⟩; have e : tacText n ⟨10, a, [], k, []⟩ = (tacW 10).data.toList ++ [32] ++ Lib.decDigits k := by unfold tacText; simp
   rw [e]; exact num_tac hk
 | bare k a hk =>
   refine ⟨0, 0, fun s n m _ hm => ?_⟩
   have e : tacText n ⟨k, a, [], 0, []⟩ = (tacW k).data.toList := by
    unfold tacText
    simp only
    rw [if_neg (by omega), if_neg (by omega)]
    simp
   rw [e]; exact bare_tac hk
end
section
variable {s : ByteArray} {m : Nat}
theorem on_line {p : Nat} (h : Has s p [10]) : FS.on s p = FS.on s (p + 1) := by
 obtain ⟨x1, x2, _⟩ := h.head; unfold FS.on; rw [lex_blank x1 (by rw [x2]; rfl)]
theorem dot_at {p : Nat} (h : Has s p [46, 10]) : Bd0 s p /\ (FS.on s p).is sDot = true /\ (FS.on s p).must s sDot = FS.on s (p + 2) /\ ∀ r, sDot ≠ r -> (FS.on s p).is r = false := by
 have h1 : Has s p [46] := h.left (u := [10]); have h2 : Has s (p + 1) [10] := h.right (t := [46]); obtain ⟨x1, x2, _⟩ := h1.head; obtain ⟨y1, y2, _⟩ := h2.head
 have hx : lex s p = (⟨3, sDot, p⟩, p + 1) := lex_one h1 rfl (fun x => by have := x.2; rw [y2] at this; exact absurd this (by decide))
 have e1 : ∀ r, sDot ≠ r -> (FS.on s p).is r = false := fun r hr => on_is_no' (by rw [hx]; exact hr)
 have e2 : ∀ k, k ≠ 3 -> (FS.on s p).kin k = false := fun k hk => by rw [on_kin hx]; simp; omega
 have hE : Ends s p := ⟨fun _ => by rw [x2]; rfl, fun y => by have := y.2.2; rw [y2] at this; exact absurd this (by decide)⟩
 refine ⟨⟨⟨⟨⟨hE, e2 2 (by decide), e1 _ (by decide)⟩, ?_⟩, e1 _ (by decide)⟩, e1 _ (by decide)⟩, on_is hx, by rw [must_on hx, on_line h2], e1⟩; unfold begins
 rw [e2 1 (by decide), e1 _ (by decide), e1 _ (by decide), e1 _ (by decide), e1 _ (by decide), e1 _ (by decide), e1 _ (by decide)]
 rfl
theorem lex_semi {p : Nat} (h : Has s p [59]) : lex s p = (⟨3, sSemi, p⟩, p + 1) := lex_sign h rfl (fun _ => rfl)
theorem semi_bd {p : Nat} (h : Has s p [59]) : Bd0 s p := sign_bd h (lex_semi h) rfl (by decide) (by decide) (by decide) (by decide) (by decide) (by decide) (by decide) (by decide) (by decide) (by decide)
theorem lex_bar {p : Nat} (h : Has s p [124]) : lex s p = (⟨3, sBar, p⟩, p + 1) := lex_sign h rfl (fun _ => rfl)
theorem bar_at {p : Nat} (h : Has s p [32, 124, 32]) : Bd0 s p /\ (FS.on s p).is sBar = true /\ (FS.on s p).step s = FS.on s (p + 3) /\ ∀ r, sBar ≠ r -> (FS.on s p).is r = false := by
 have h1 : Has s p [32] := h.left (u := [124, 32]); have h2 : Has s (p + 1) [124, 32] := h.right (t := [32]); have h3 : Has s (p + 1) [124] := h2.left (u := [32])
 have h4 : Has s (p + 1 + 1) [32] := h2.right (t := [124]); have hx := lex_bar h3; obtain ⟨x3, x4⟩ := blank_sign h1 hx (by decide) (by decide) (by decide) (by decide) (by decide) (by decide) (by decide)
 exact ⟨⟨⟨x3, x4 _ (by decide)⟩, x4 _ (by decide)⟩, by rw [on_blank h1]; exact on_is hx, by rw [on_blank h1, on_step hx, on_blank h4], x4⟩
theorem be_at {p : Nat} (h : Has s p [32, 58, 61, 32]) : Bd0 s p /\ (FS.on s p).must s sBe = FS.on s (p + 4) /\ ∀ r, sBe ≠ r -> (FS.on s p).is r = false := by
 have h1 : Has s p [32] := h.left (u := [58, 61, 32]); have h2 : Has s (p + 1) [58, 61, 32] := h.right (t := [32]); have h3 : Has s (p + 1) [58, 61] := h2.left (u := [32])
 have h4 : Has s (p + 1 + 2) [32] := h2.right (t := [58, 61]); have hx := lex_be h3; obtain ⟨x3, x4⟩ := blank_sign h1 hx (by decide) (by decide) (by decide) (by decide) (by decide) (by decide) (by decide)
 exact ⟨⟨⟨x3, x4 _ (by decide)⟩, x4 _ (by decide)⟩, by rw [on_blank h1, must_on hx, on_blank h4], x4⟩
theorem by_at {p : Nat} (h : Has s p [32, 98, 121, 32]) : Bd0 s p /\ (FS.on s p).is wBy = true /\ (FS.on s p).step s = FS.on s (p + 4) := by
 have h1 : Has s p [32] := h.left (u := [98, 121, 32]); have h2 : Has s (p + 1) (wBy.data.toList ++ [32]) := h.right (t := [32]); obtain ⟨hi, hi2⟩ := word_sp h2 (by decide) (by decide) (by decide) (by decide) (by decide)
 change lex s (p + 1) = (⟨3, wBy, p + 1⟩, p + 3) at hi
 change FS.on s (p + 3) = FS.on s (p + 4) at hi2
 obtain ⟨y3, y4⟩ := blank_sign h1 hi (by decide) (by decide) (by decide) (by decide) (by decide) (by decide) (by decide)
 exact ⟨⟨⟨y3, y4 _ (by decide)⟩, y4 _ (by decide)⟩, by rw [on_blank h1]; exact on_is hi, by rw [on_blank h1, on_step hi, hi2]⟩
def commasT (l : List ByteArray) : List UInt8 := l.flatMap fun q => [44, 32] ++ q.data.toList
theorem join_names (x : ByteArray) : ∀ (l : List ByteArray), joinT [44, 32] ((x :: l).map fun q => q.data.toList) = x.data.toList ++ commasT l := by
 intro l
 induction l generalizing x with
 | nil => simp [joinT, commasT]
 | cons y l ih =>
   have := ih y
   simp only [List.map_cons] at this ⊢
   simp only [joinT]
   rw [this]
   simp [commasT]
theorem commas_read : ∀ (l : List ByteArray) (k : Nat) (l0 : List ByteArray) (p : Nat), (∀ q ∈ l, LNm q) -> l.length <= k -> Has s p (commasT l ++ [125]) -> commasN s k l0 (FS.on s p) = (l0 ++ l, FS.on s (p + (commasT l).length)) /\ Ends s p
 | [], k, l0, p, _, _, hp => by
   have h' : Has s p [125] := by simpa [commasT] using hp
   refine ⟨?_, (unbrace_bd h').ends⟩; have hs : (FS.on s p).is sComma = false := on_is_no' (by rw [lex_unbrace h']; show sUnbrace ≠ sComma; decide)
   have e : commasN s k l0 (FS.on s p) = (l0, FS.on s p) := by
    cases k with
    | zero => rfl
    | succ k => simp only [commasN]; rw [if_neg (by rw [hs]; simp)]
   rw [e, List.append_nil]
   rfl
 | q :: l, 0, _, _, _, hk, _ => absurd hk (by simp)
 | q :: l, k + 1, l0, p, hq, hk, hp => by
   have e0 : commasT (q :: l) ++ [125] = [44, 32] ++ q.data.toList ++ (commasT l ++ [125]) := by simp [commasT]
   rw [e0] at hp; obtain ⟨h1, h2, h3⟩ := hp.mid
   change Has s (p + 2) _ at h2
   change Has s (p + 2 + q.data.toList.length) _ at h3
   have c1 : Has s p [44] := h1.left (u := [32]); have c2 : Has s (p + 1) [32] := h1.right (t := [44]); have hx := lex_comma c1
   obtain ⟨r1, r2⟩ := commas_read l k (l0 ++ [q]) _ (fun x hx => hq x (by simp [hx])) (by simp only [List.length_cons] at hk; omega) h3; have hn := (hq q (by simp)).toks h2 r2; refine ⟨?_, ends_of c1 rfl (by decide)⟩
   simp only [commasN]
   rw [if_pos (on_is hx), on_step hx, on_blank c2, name_on hn]
   simp only
   rw [r1]
   have el : p + 2 + q.data.toList.length + (commasT l).length = p + (commasT (q :: l)).length := by
    have : (commasT (q :: l)).length = 2 + q.data.toList.length + (commasT l).length := by simp [commasT]; omega
    omega
   rw [el]
   simp
def paramsT (ps : List ByteArray) : List UInt8 := if ps.isEmpty = true then [] else [46, 123] ++ joinT [44, 32] (ps.map fun q => q.data.toList) ++ [125]
theorem params_read (ps : List ByteArray) (hq : ∀ q ∈ ps, LNm q) (hk : ps.length <= m) (p : Nat) (hp : Has s p (paramsT ps)) (hb : Bd4 s (p + (paramsT ps).length)) : paramsF s m (FS.on s p) = (ps, FS.on s (p + (paramsT ps).length)) /\ Ends s p := by
 cases ps with
 | nil =>
   have hb' : Bd4 s p := hb; refine ⟨?_, hb'.ends⟩; unfold paramsF
   simp only
   rw [if_neg (by rw [hb'.lev]; simp)]
   rfl
 | cons q l =>
   have e0 : paramsT (q :: l) = [46, 123] ++ q.data.toList ++ (commasT l ++ [125]) := by
    unfold paramsT; rw [if_neg (by simp), join_names]
    simp
   rw [e0] at hp ⊢; obtain ⟨h1, h2, h3⟩ := hp.mid
   change Has s (p + 2) _ at h2
   change Has s (p + 2 + q.data.toList.length) _ at h3
   obtain ⟨x1, x2, x3⟩ := h1.head; obtain ⟨x4, x5, _⟩ := x3.head; have hE : Ends s p := ⟨fun _ => by rw [x2]; rfl, fun y => by have := y.2.2; rw [x5] at this; exact absurd this (by decide)⟩
   have hx : lex s p = (⟨3, sLevels, p⟩, p + 2) := lex_two h1 rfl; obtain ⟨r1, r2⟩ := commas_read l m [q] _ (fun x hx => hq x (by simp [hx])) (by simp only [List.length_cons] at hk; omega) h3
   have hn := (hq q (by simp)).toks h2 r2; have hu := lex_unbrace h3.right; refine ⟨?_, hE⟩; unfold paramsF
   simp only
   rw [if_pos (on_is hx), on_step hx, name_on hn]
   simp only
   rw [r1]
   simp only
   rw [must_on hu]
   have el : p + 2 + q.data.toList.length + (commasT l).length + 1 = p + ([46, 123] ++ q.data.toList ++ (commasT l ++ [125])).length := by simp only [List.length_append, List.length_cons, List.length_nil]; omega
   rw [el]
   rfl
end
end Go.Proofs.YtockffblncdikaaGreatDoor
