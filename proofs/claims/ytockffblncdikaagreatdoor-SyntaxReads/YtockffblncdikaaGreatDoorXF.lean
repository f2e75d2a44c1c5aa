/- A printed expression is read again: let, levels behind a name. No walk. -/
import Derived.Test.YtockffblncdikaaGreatDoorXC
namespace Go.Proofs.YtockffblncdikaaGreatDoor
open Go.RowKit
set_option maxRecDepth 100000
set_option maxHeartbeats 16000000
section
variable {s : ByteArray} {m : Nat}
theorem Has.mid {p : Nat} {a b c : List UInt8} (h : Has s p (a ++ b ++ c)) : Has s p a /\ Has s (p + a.length) b /\ Has s (p + a.length + b.length) c := by
 refine ⟨h.left.left, h.left.right, ?_⟩; have := h.right; rw [List.length_append, <- Nat.add_assoc] at this; exact this
theorem lex_colon {p : Nat} (h : Has s p [58, 32]) : lex s p = (⟨3, sColon, p⟩, p + 1) := by
 have h1 : Has s p [58] := h.left (u := [32]); have h2 : Has s (p + 1) [32] := h.right (t := [58]); refine lex_one h1 rfl ?_; rw [h2.head.2.1]
 simp [twoB]
theorem colon_at {p : Nat} (h : Has s p [32, 58, 32]) : Bd0 s p /\ (FS.on s p).is sColon = true /\ (FS.on s p).step s = FS.on s (p + 3) /\ Ends s p /\ (FS.on s p).kin 1 = false := by
 have h1 : Has s p [32] := h.left (u := [58, 32]); have h2 : Has s (p + 1) [58, 32] := h.right (t := [32]); have h3 : Has s (p + 1 + 1) [32] := h2.right (t := [58]); have hx := lex_colon h2
 obtain ⟨b3, b4⟩ := blank_sign h1 hx (by decide) (by decide) (by decide) (by decide) (by decide) (by decide) (by decide); refine ⟨⟨⟨b3, b4 _ (by decide)⟩, b4 _ (by decide)⟩, ?_, ?_, b3.b4.ends, ?_⟩
 . rw [on_blank h1]; exact on_is hx
 . rw [on_blank h1, on_step hx, on_blank h3]
 . rw [on_blank h1, on_kin hx]; simp
theorem must_is {st : FS} {q : ByteArray} (h : st.is q = true) : st.must s q = st.step s := by unfold FS.must; rw [if_pos h]
theorem lex_brace {p : Nat} (h : Has s p [123]) : lex s p = (⟨3, sBrace, p⟩, p + 1) := lex_sign h rfl (fun _ => rfl)
theorem lex_unbrace {p : Nat} (h : Has s p [125]) : lex s p = (⟨3, sUnbrace, p⟩, p + 1) := lex_sign h rfl (fun _ => rfl)
theorem lex_comma {p : Nat} (h : Has s p [44]) : lex s p = (⟨3, sComma, p⟩, p + 1) := lex_sign h rfl (fun _ => rfl)
theorem unbrace_bd {p : Nat} (h : Has s p [125]) : Bd0 s p := sign_bd h (lex_unbrace h) rfl (by decide) (by decide) (by decide) (by decide) (by decide) (by decide) (by decide) (by decide) (by decide) (by decide)
theorem is_read {te tt : List UInt8} {e t : Ex} {a : Nat} (he : ExT s m te e) (ht : ExT s m tt t) : AtomT s (m + 1) ([40] ++ te ++ [32, 58, 32] ++ tt ++ [41]) (.node 8 a ⟨#[]⟩ false false false false [] [e, t]) := fun p hp hb => by
 obtain ⟨hp1, hp2, hp3⟩ := hp.mid; obtain ⟨h1, h2, h3⟩ := hp1.mid; have e1 : p + ([40] ++ te ++ [32, 58, 32]).length = p + 1 + te.length + 3 := by simp; omega
 have e2 : p + ([40] ++ te ++ [32, 58, 32] ++ tt ++ [41]).length = p + 1 + te.length + 3 + tt.length + 1 := by simp; omega
 rw [e1] at hp2 hp3; rw [e2]
 change Has s (p + 1) te at h2
 change Has s (p + 1 + te.length) [32, 58, 32] at h3
 obtain ⟨c1, c2, c3, _⟩ := colon_at h3; obtain ⟨e', ee, re⟩ := he _ h2 c1; obtain ⟨t', et, rt⟩ := ht _ hp2 (shut_bd hp3); have ho := lex_open h1; have hs := lex_shut hp3; obtain ⟨g1, g2⟩ := open_beg h1
 refine ⟨g1, g2, .node 8 (FS.on s p).t.at_ ⟨#[]⟩ false false false false [] [e', t'], by simp only [er_node, List.map_cons, List.map_nil, ee, et], ?_⟩; rw [(atom_sign (m := m + 1) ho (exprN s (m + 1))).2.2.2.2.2 rfl]
 unfold bracketX
 simp only
 rw [re]
 simp only
 rw [if_pos c2, c3, rt]
 simp only
 rw [must_on hs]
theorem names_one {q : ByteArray} {p e a : Nat} (h : lex s p = (⟨1, q, a⟩, e)) (hk : (FS.on s e).kin 1 = false) (k : Nat) : namesN s (k + 1) [] (FS.on s p) = ([(q, (FS.on s p).t.at_)], FS.on s e) := by
 simp only [namesN]
 rw [name_on h]
 simp only
 rw [if_neg (by rw [hk]; simp)]
 rfl
theorem group_read {q : ByteArray} {im : Bool} {tt : List UInt8} {t : Ex} (hq : LNm q) (ht : ExT s m tt t) (p : Nat) (hp : Has s p (binderT q im tt)) :
 ((FS.on s p).is sOpen = true \/ (FS.on s p).is sBrace = true) /\ (FS.on s p).kin 1 = false /\ ∃ t' a, er t' = er t /\ groupF s (m + 1) (exprN s (m + 1)) (FS.on s p) = ([⟨q, im, t', a⟩], FS.on s (p + (binderT q im tt).length)) := by
 cases im with
 | true =>
   have hp' : Has s p ([123] ++ q.data.toList ++ [32, 58, 32] ++ tt ++ [125]) := hp; obtain ⟨hp1, hp2, hp3⟩ := hp'.mid; obtain ⟨h1, h2, h3⟩ := hp1.mid
   have e1 : p + ([123] ++ q.data.toList ++ [32, 58, 32]).length = p + 1 + q.data.toList.length + 3 := by simp only [List.length_append, List.length_cons, List.length_nil]; omega
   rw [e1] at hp2 hp3
   change Has s (p + 1) q.data.toList at h2
   change Has s (p + 1 + q.data.toList.length) [32, 58, 32] at h3
   obtain ⟨_, c2, c3, c4, c5⟩ := colon_at h3; have hx := lex_brace h1; have hn := hq.toks h2 c4; obtain ⟨t', et, rt⟩ := ht _ hp2 (unbrace_bd hp3); have hs := lex_unbrace hp3
   refine ⟨.inr (on_is hx), by rw [on_kin hx]; simp, t', (FS.on s (p + 1)).t.at_, et, ?_⟩
   have e2 : p + (binderT q true tt).length = p + 1 + q.data.toList.length + 3 + tt.length + 1 := by simp only [binderT, if_true, List.length_append, List.length_cons, List.length_nil]; omega
   rw [e2]; unfold groupF
   simp only
   rw [on_is hx]
   simp only [if_true]
   rw [on_step hx, names_one hn c5]
   simp only
   rw [must_is c2, c3, rt]
   simp only
   rw [must_on hs]
   rfl
 | false =>
   have hp' : Has s p ([40] ++ q.data.toList ++ [32, 58, 32] ++ tt ++ [41]) := hp; obtain ⟨hp1, hp2, hp3⟩ := hp'.mid; obtain ⟨h1, h2, h3⟩ := hp1.mid
   have e1 : p + ([40] ++ q.data.toList ++ [32, 58, 32]).length = p + 1 + q.data.toList.length + 3 := by simp only [List.length_append, List.length_cons, List.length_nil]; omega
   rw [e1] at hp2 hp3
   change Has s (p + 1) q.data.toList at h2
   change Has s (p + 1 + q.data.toList.length) [32, 58, 32] at h3
   obtain ⟨_, c2, c3, c4, c5⟩ := colon_at h3; have hx := lex_open h1; have hn := hq.toks h2 c4; obtain ⟨t', et, rt⟩ := ht _ hp2 (shut_bd hp3); have hs := lex_shut hp3
   have hb : (FS.on s p).is sBrace = false := on_is_no' (by rw [hx]; show sOpen ≠ sBrace; decide); refine ⟨.inl (on_is hx), by rw [on_kin hx]; simp, t', (FS.on s (p + 1)).t.at_, et, ?_⟩
   have e2 : p + (binderT q false tt).length = p + 1 + q.data.toList.length + 3 + tt.length + 1 := by
    show p + ([40] ++ q.data.toList ++ [32, 58, 32] ++ tt ++ [41]).length = _
    simp only [List.length_append, List.length_cons, List.length_nil]; omega
   rw [e2]; unfold groupF
   simp only
   rw [hb]
   simp only [Bool.false_eq_true, if_false]
   rw [must_on hx, names_one hn c5]
   simp only
   rw [must_is c2, c3, rt]
   simp only
   rw [must_on hs]
   rfl
end
section
variable {s : ByteArray} {m : Nat}
theorem pz_groups_stop {st : FS} (h1 : st.is sOpen = false) (h2 : st.is sBrace = false) (n : Nat) (E : FS -> Ex × FS) (k : Nat) (l : List Bd) : groupsN s n E k l st = (l, st) := by
 cases k with
 | zero => rfl
 | succ k => simp only [groupsN]; rw [if_neg (by rw [h1, h2]; simp)]
theorem pz_funs_stop {st : FS} (h0 : st.kin 1 = false) (h1 : st.is sOpen = false) (h2 : st.is sBrace = false) (n : Nat) (E : FS -> Ex × FS) (k : Nat) (l : List Bd) : funsN s n E k l st = (l, st) := by
 cases k with
 | zero => rfl
 | succ k => simp only [funsN]; rw [if_neg (by rw [h0]; simp), if_neg (by rw [h1, h2]; simp)]
theorem lex_to {p : Nat} (h : Has s p [61, 62]) : lex s p = (⟨3, sTo, p⟩, p + 2) := lex_two h rfl
theorem lex_be {p : Nat} (h : Has s p [58, 61]) : lex s p = (⟨3, sBe, p⟩, p + 2) := lex_two h rfl
theorem word_sp {q : ByteArray} {p : Nat} (h : Has s p (q.data.toList ++ [32])) (h0 : 0 < q.size) (h1 : q.size <= 40) (hf : alphaB (at_ q 0) = true) (hn : lnameEnd q 0 = q.size) (hi : isWord q = true) : lex s p = (⟨3, q, p⟩, p + q.data.toList.length) /\ FS.on s (p + q.data.toList.length) = FS.on s (p + q.data.toList.length + 1) :=
 ⟨word_at h.left (ends_of h.right rfl (by decide)) h0 h1 hf hn hi, on_blank h.right⟩
theorem fun_read {q : ByteArray} {im : Bool} {tt te : List UInt8} {t e : Ex} {a : Nat} (hq : LNm q) (ht : ExT s m tt t) (he : ExT s m te e) : ExT s (m + 1) ([102, 117, 110, 32] ++ binderT q im tt ++ [32, 61, 62, 32] ++ te) (.node 5 a q false false false im [] [t, e]) := fun p hp hb => by
 obtain ⟨hp1, hp2, hp3⟩ := hp.mid; have h1 : Has s p (wFun.data.toList ++ [32]) := hp1.left; have h2 : Has s (p + 4) (binderT q im tt) := hp1.right
 have e1 : p + ([102, 117, 110, 32] ++ binderT q im tt).length = p + 4 + (binderT q im tt).length := by simp only [List.length_append, List.length_cons, List.length_nil]; omega
 rw [e1] at hp2 hp3; generalize hL : p + 4 + (binderT q im tt).length = L at hp2 hp3; have k1 : Has s L [32] := hp2.left (u := [61, 62, 32])
 have k2 : Has s (L + 1) [61, 62] := (hp2.right (t := [32]) (u := [61, 62, 32])).left (u := [32]); have k3 : Has s (L + 3) [32] := hp2.right (t := [32, 61, 62])
 change Has s (L + 4) te at hp3
 have e2 : p + ([102, 117, 110, 32] ++ binderT q im tt ++ [32, 61, 62, 32] ++ te).length = L + 4 + te.length := by simp only [List.length_append, List.length_cons, List.length_nil]; omega
 rw [e2] at hb ⊢; obtain ⟨hw, hw2⟩ := word_sp h1 (by decide) (by decide) (by decide) (by decide) (by decide)
 change lex s p = (⟨3, wFun, p⟩, p + 3) at hw
 change FS.on s (p + 3) = FS.on s (p + 4) at hw2
 obtain ⟨g1, g2, t', b, et, rt⟩ := group_read hq ht (p + 4) h2; rw [hL] at rt; have hto := lex_to k2; obtain ⟨e', ee, re⟩ := he _ hp3 hb; have n0 : (FS.on s L).kin 1 = false := by rw [on_blank k1, on_kin hto]; simp
 have n1 : ∀ r, sTo ≠ r -> (FS.on s L).is r = false := fun r hr => by rw [on_blank k1]; exact on_is_no' (by rw [hto]; exact hr)
 refine ⟨.node 5 b q false false false im [] [t', e'], by simp only [er_node, List.map_cons, List.map_nil, et, ee], ?_⟩; show exprF s (m + 1) (exprN s (m + 1)) (FS.on s p) = _; unfold exprF
 simp only
 have hf : funsN s (m + 1) (exprN s (m + 1)) (m + 1) [] (FS.on s (p + 4)) = ([⟨q, im, t', b⟩], FS.on s L) := by
  simp only [funsN]
  rw [if_neg (by rw [g2]; simp), if_pos g1, rt]; exact pz_funs_stop n0 (n1 _ (by decide)) (n1 _ (by decide)) _ _ _ _
 rw [if_pos (on_is hw), on_step hw, hw2, hf]; have h1 : some1 ([⟨q, im, t', b⟩], FS.on s L) = ([⟨q, im, t', b⟩], FS.on s L) := rfl; rw [h1]
 simp only
 rw [on_blank k1, must_on hto, on_blank k3, re]
 rfl
theorem all_read {q : ByteArray} {im : Bool} {tt te : List UInt8} {t e : Ex} {a : Nat} (hq : LNm q) (ht : ExT s m tt t) (he : ExT s m te e) : ExT s (m + 1) ([102, 111, 114, 97, 108, 108, 32] ++ binderT q im tt ++ [44, 32] ++ te) (.node 6 a q false false false im [] [t, e]) := fun p hp hb => by
 obtain ⟨hp1, hp2, hp3⟩ := hp.mid; have h1 : Has s p (wForall.data.toList ++ [32]) := hp1.left; have h2 : Has s (p + 7) (binderT q im tt) := hp1.right
 have e1 : p + ([102, 111, 114, 97, 108, 108, 32] ++ binderT q im tt).length = p + 7 + (binderT q im tt).length := by simp only [List.length_append, List.length_cons, List.length_nil]; omega
 rw [e1] at hp2 hp3; generalize hL : p + 7 + (binderT q im tt).length = L at hp2 hp3; have k1 : Has s L [44] := hp2.left (u := [32]); have k2 : Has s (L + 1) [32] := hp2.right (t := [44])
 change Has s (L + 2) te at hp3
 have e2 : p + ([102, 111, 114, 97, 108, 108, 32] ++ binderT q im tt ++ [44, 32] ++ te).length = L + 2 + te.length := by simp only [List.length_append, List.length_cons, List.length_nil]; omega
 rw [e2] at hb ⊢; obtain ⟨hw, hw2⟩ := word_sp h1 (by decide) (by decide) (by decide) (by decide) (by decide)
 change lex s p = (⟨3, wForall, p⟩, p + 6) at hw
 change FS.on s (p + 6) = FS.on s (p + 7) at hw2
 obtain ⟨g1, g2, t', b, et, rt⟩ := group_read hq ht (p + 7) h2; rw [hL] at rt; have hto := lex_comma k1; obtain ⟨e', ee, re⟩ := he _ hp3 hb
 have n1 : ∀ r, sComma ≠ r -> (FS.on s L).is r = false := fun r hr => on_is_no' (by rw [hto]; exact hr)
 refine ⟨.node 6 b q false false false im [] [t', e'], by simp only [er_node, List.map_cons, List.map_nil, et, ee], ?_⟩; show exprF s (m + 1) (exprN s (m + 1)) (FS.on s p) = _; unfold exprF
 simp only
 have hf : groupsN s (m + 1) (exprN s (m + 1)) (m + 1) [] (FS.on s (p + 7)) = ([⟨q, im, t', b⟩], FS.on s L) := by
  simp only [groupsN]
  rw [if_pos g1, rt]; exact pz_groups_stop (n1 _ (by decide)) (n1 _ (by decide)) _ _ _ _
 rw [if_neg (by rw [on_is_no' (by rw [hw]; show wForall ≠ wFun; decide)]; simp), if_pos (on_is hw), on_step hw, hw2, hf]; have h1 : some1 ([⟨q, im, t', b⟩], FS.on s L) = ([⟨q, im, t', b⟩], FS.on s L) := rfl; rw [h1]
 simp only
 rw [must_on hto, on_blank k2, re]
 rfl
end
section
variable {s : ByteArray} {m : Nat}
theorem let_read {q : ByteArray} {tt tv tb : List UInt8} {t v b : Ex} {a : Nat} (hq : LNm q) (ht : ExT s m tt t) (hv : ExT s m tv v) (hbd : ExT s m tb b) :
 ExT s (m + 1) ([108, 101, 116, 32] ++ q.data.toList ++ [32, 58, 32] ++ tt ++ [32, 58, 61, 32] ++ tv ++ [32, 105, 110, 32] ++ tb) (.node 7 a q false false false false [] [t, v, b]) := fun p hp hb => by
 obtain ⟨hp1, hp2, hp3⟩ := hp.mid; obtain ⟨hq1, hq2, hq3⟩ := hp1.mid; obtain ⟨hr1, hr2, hr3⟩ := hq1.mid; have h1 : Has s p (wLet.data.toList ++ [32]) := hr1.left; have h2 : Has s (p + 4) q.data.toList := hr1.right
 have e1 : p + ([108, 101, 116, 32] ++ q.data.toList).length = p + 4 + q.data.toList.length := by simp only [List.length_append, List.length_cons, List.length_nil]; omega
 rw [e1] at hr2 hr3; generalize hL : p + 4 + q.data.toList.length = L at hr2 hr3
 change Has s (L + 3) tt at hr3
 have e2 : p + ([108, 101, 116, 32] ++ q.data.toList ++ [32, 58, 32] ++ tt).length = L + 3 + tt.length := by simp only [List.length_append, List.length_cons, List.length_nil]; omega
 rw [e2] at hq2 hq3; generalize hK : L + 3 + tt.length = K at hq2 hq3
 change Has s (K + 4) tv at hq3
 have e3 : p + ([108, 101, 116, 32] ++ q.data.toList ++ [32, 58, 32] ++ tt ++ [32, 58, 61, 32] ++ tv).length = K + 4 + tv.length := by simp only [List.length_append, List.length_cons, List.length_nil]; omega
 rw [e3] at hp2 hp3; generalize hJ : K + 4 + tv.length = J at hp2 hp3
 change Has s (J + 4) tb at hp3
 have e4 : p + ([108, 101, 116, 32] ++ q.data.toList ++ [32, 58, 32] ++ tt ++ [32, 58, 61, 32] ++ tv ++ [32, 105, 110, 32] ++ tb).length = J + 4 + tb.length := by simp only [List.length_append, List.length_cons, List.length_nil]; omega
 rw [e4] at hb ⊢; obtain ⟨hw, hw2⟩ := word_sp h1 (by decide) (by decide) (by decide) (by decide) (by decide)
 change lex s p = (⟨3, wLet, p⟩, p + 3) at hw
 change FS.on s (p + 3) = FS.on s (p + 4) at hw2
 obtain ⟨_, c2, c3, c4, _⟩ := colon_at hr2; have hn : lex s (p + 4) = (⟨1, q, p + 4⟩, L) := by rw [<- hL]; exact hq.toks h2 (by rw [hL]; exact c4)
 have k1 : Has s K [32] := hq2.left (u := [58, 61, 32]); have k2 : Has s (K + 1) [58, 61] := (hq2.right (t := [32]) (u := [58, 61, 32])).left (u := [32]); have k3 : Has s (K + 3) [32] := hq2.right (t := [32, 58, 61])
 have hbe := lex_be k2; obtain ⟨x3, x4⟩ := blank_sign k1 hbe (by decide) (by decide) (by decide) (by decide) (by decide) (by decide) (by decide)
 obtain ⟨t', et, rt⟩ := ht _ hr3 (by rw [hK]; exact ⟨⟨x3, x4 _ (by decide)⟩, x4 _ (by decide)⟩); rw [hK] at rt; have j1 : Has s J [32] := hp2.left (u := [105, 110, 32])
 have j2 : Has s (J + 1) (wIn.data.toList ++ [32]) := hp2.right (t := [32]) (u := [105, 110, 32]); obtain ⟨hi, hi2⟩ := word_sp j2 (by decide) (by decide) (by decide) (by decide) (by decide)
 change lex s (J + 1) = (⟨3, wIn, J + 1⟩, J + 3) at hi
 change FS.on s (J + 3) = FS.on s (J + 4) at hi2
 obtain ⟨y3, y4⟩ := blank_sign j1 hi (by decide) (by decide) (by decide) (by decide) (by decide) (by decide) (by decide); obtain ⟨v', ev, rv⟩ := hv _ hq3 (by rw [hJ]; exact ⟨⟨y3, y4 _ (by decide)⟩, y4 _ (by decide)⟩)
 rw [hJ] at rv; obtain ⟨b', eb, rb⟩ := hbd _ hp3 hb; refine ⟨.node 7 (FS.on s (p + 4)).t.at_ q false false false false [] [t', v', b'], by simp only [er_node, List.map_cons, List.map_nil, et, ev, eb], ?_⟩
 show exprF s (m + 1) (exprN s (m + 1)) (FS.on s p) = _; unfold exprF
 simp only
 rw [if_neg (by rw [on_is_no' (by rw [hw]; show wLet ≠ wFun; decide)]; simp), if_neg (by rw [on_is_no' (by rw [hw]; show wLet ≠ wForall; decide)]; simp), if_pos (on_is hw), on_step hw, hw2]; unfold letX
 simp only
 rw [name_on hn]
 simp only
 rw [must_is c2, c3, rt]
 simp only
 rw [on_blank k1, must_on hbe, on_blank k3, rv]
 simp only
 rw [on_blank j1, must_on hi, hi2, rb]
def commaT (ls : List LvB) : List UInt8 := ls.flatMap fun l => [44, 32] ++ lvText l
theorem join_comma (x : LvB) : ∀ (ls : List LvB), joinT [44, 32] ((x :: ls).map lvText) = lvText x ++ commaT ls := by
 intro ls
 induction ls generalizing x with
 | nil => simp [joinT, commaT]
 | cons y ls ih =>
   have := ih y
   simp only [List.map_cons] at this ⊢
   simp only [joinT]
   rw [this]
   simp [commaT]
theorem next_stop {p : Nat} : ∀ (ls : List LvB), Has s p (commaT ls ++ [125]) -> Ends s p /\ (FS.on s p).is sPlus = false
 | [], h => by
   have h' : Has s p [125] := by simpa [commaT] using h
   exact ⟨ends_of h' rfl (by decide), on_is_no' (by rw [lex_unbrace h']; show sUnbrace ≠ sPlus; decide)⟩
 | x :: ls, h => by
   have h' : Has s p [44] := by
    have e : commaT (x :: ls) ++ [125] = [44] ++ ([32] ++ lvText x ++ commaT ls ++ [125]) := by simp [commaT]
    rw [e] at h; exact h.left
   exact ⟨ends_of h' rfl (by decide), on_is_no' (by rw [lex_comma h']; show sComma ≠ sPlus; decide)⟩
theorem levels_read {n : Nat} : ∀ (ls acc : List LvB) (k p : Nat), (∀ x ∈ ls, GoodAt x 0 /\ need x 0 < n) -> ls.length <= k -> Has s p (commaT ls ++ [125]) -> levelsN s n k acc (FS.on s p) = (acc ++ ls, FS.on s (p + (commaT ls).length))
 | [], acc, k, p, _, _, h => by
   have h' : Has s p [125] := by simpa [commaT] using h
   have hx := lex_unbrace h'
   have : levelsN s n k acc (FS.on s p) = (acc, FS.on s p) := by
    cases k with
    | zero => rfl
    | succ k => simp only [levelsN]; rw [if_neg (by rw [on_is_no' (by rw [hx]; show sUnbrace ≠ sComma; decide)]; simp)]
   rw [this]
   simp [commaT]
 | x :: ls, acc, k, p, hg, hk, h => by
   obtain ⟨j, rfl⟩ : ∃ j, k = j + 1 := ⟨k - 1, by simp at hk; omega⟩; have e : commaT (x :: ls) ++ [125] = [44, 32] ++ lvText x ++ (commaT ls ++ [125]) := by simp [commaT]
   rw [e] at h; obtain ⟨h1, h2, h3⟩ := h.mid; have k1 : Has s p [44] := h1.left (u := [32]); have k2 : Has s (p + 1) [32] := h1.right (t := [44])
   change Has s (p + 2) (lvText x) at h2
   change Has s (p + 2 + (lvText x).length) (commaT ls ++ [125]) at h3
   have hc := lex_comma k1; obtain ⟨s1, s2⟩ := next_stop ls h3
   have hr : levelN s n (FS.on s (p + 2)) = (x, FS.on s (p + 2 + (lvText x).length)) := lv_read s x 0 n (hg x (by simp)).1 (hg x (by simp)).2 (p + 2) h2 s1 s2
   simp only [levelsN]
   rw [if_pos (on_is hc), on_step hc, on_blank k2, hr]
   simp only
   rw [levels_read ls _ j _ (fun y hy => hg y (by simp [hy])) (by simp at hk; omega) h3]; have e2 : p + 2 + (lvText x).length + (commaT ls).length = p + (commaT (x :: ls)).length := by simp [commaT]; omega
   rw [e2]
   simp
theorem given_name {q : ByteArray} {l : LvB} {ls : List LvB} {a : Nat} {ex : Bool} (hq : LNm q) (hg : ∀ x ∈ l :: ls, GoodAt x 0 /\ need x 0 < m) (hk : ls.length <= m) (p : Nat) (hp : Has s p (q.data.toList ++ ([46, 123] ++ (lvText l ++ (commaT ls ++ [125]))))) :
 nameX s m a ex (FS.on s p) = (.node 1 a q ex true false false (l :: ls) [], FS.on s (p + (q.data.toList ++ ([46, 123] ++ (lvText l ++ (commaT ls ++ [125])))).length)) /\ lex s p = (⟨1, q, p⟩, p + q.data.toList.length) := by
 have h1 := hp.left; have h2 := hp.right; have k1 : Has s (p + q.data.toList.length) [46, 123] := h2.left; have k2 := h2.right
 change Has s (p + q.data.toList.length + 2) (lvText l ++ (commaT ls ++ [125])) at k2
 obtain ⟨x1, x2, x3⟩ := k1.head; obtain ⟨x4, x5, _⟩ := x3.head; have hE : Ends s (p + q.data.toList.length) := ⟨fun _ => by rw [x2]; rfl, fun y => by have := y.2.2; rw [x5] at this; exact absurd this (by decide)⟩
 have hn := hq.toks h1 hE; have hx : lex s (p + q.data.toList.length) = (⟨3, sLevels, p + q.data.toList.length⟩, p + q.data.toList.length + 2) := lex_two k1 rfl; obtain ⟨s1, s2⟩ := next_stop ls k2.right
 have hr : levelN s m (FS.on s (p + q.data.toList.length + 2)) = (l, FS.on s (p + q.data.toList.length + 2 + (lvText l).length)) := lv_read s l 0 m (hg l (by simp)).1 (hg l (by simp)).2 _ k2.left s1 s2
 have hls := levels_read (n := m) ls [l] m _ (fun y hy => hg y (by simp [hy])) hk k2.right; have ku : Has s (p + q.data.toList.length + 2 + (lvText l).length + (commaT ls).length) [125] := k2.right.right
 have hu := lex_unbrace ku; refine ⟨?_, hn⟩; unfold nameX
 simp only
 rw [name_on hn]
 simp only
 rw [if_pos (on_is hx), on_step hx, hr]
 simp only
 rw [hls]
 simp only
 rw [must_on hu]
 have e : p + q.data.toList.length + 2 + (lvText l).length + (commaT ls).length + 1 = p + (q.data.toList ++ ([46, 123] ++ (lvText l ++ (commaT ls ++ [125])))).length := by simp only [List.length_append, List.length_cons, List.length_nil]; omega
 rw [e]
 rfl
end
end Go.Proofs.YtockffblncdikaaGreatDoor
