/- The language's reader never goes back, and its names are names: no walk. Dn's and Gd's texts with a state that knows of its token. -/
import Derived.Test.YtockffblncdikaaGreatDoorXF
namespace Go.Proofs.YtockffblncdikaaGreatDoor
open Go.RowKit
set_option maxRecDepth 100000
set_option maxHeartbeats 16000000
section
variable {s : ByteArray} {m : Nat}
theorem given_text (a : Nat) (q : ByteArray) (ex : Bool) (l : LvB) (ls : List LvB) : nameText (.node 1 a q ex true false false (l :: ls) []) = (if ex = true then [64] else []) ++ (q.data.toList ++ ([46, 123] ++ (lvText l ++ (commaT ls ++ [125])))) := by
 show (if ex = true then [64] else []) ++ q.data.toList ++ (if true = true then [46, 123] ++ joinT [44, 32] ((l :: ls).map lvText) ++ [125] else []) = _; rw [join_comma]
 simp
theorem given_atom (a : Nat) (q : ByteArray) (ex : Bool) (l : LvB) (ls : List LvB) (hq : LNm q) (hg : ∀ x ∈ l :: ls, GoodAt x 0 /\ need x 0 < m) (hk : ls.length <= m) : AtomT s m (nameText (.node 1 a q ex true false false (l :: ls) [])) (.node 1 a q ex true false false (l :: ls) []) := by
 rw [given_text]; intro p hp hb
 cases ex with
 | false =>
   have hp' : Has s p (q.data.toList ++ ([46, 123] ++ (lvText l ++ (commaT ls ++ [125])))) := hp; obtain ⟨hr, hx⟩ := given_name (a := (FS.on s p).t.at_) (ex := false) hq hg hk p hp'; obtain ⟨g1, g2⟩ := name_beg hx
   refine ⟨g1, g2, .node 1 (FS.on s p).t.at_ q false true false false (l :: ls) [], by rw [er_node, er_node], ?_⟩; unfold atomF; rw [if_pos (by rw [on_kin hx]; rfl)]
   have e : (FS.on s p).t.at_ = (FS.on s p).t.at_ := rfl; rw [hr]
   rfl
 | true =>
   have hp' : Has s p ([64] ++ (q.data.toList ++ ([46, 123] ++ (lvText l ++ (commaT ls ++ [125]))))) := hp; have h1 : Has s p [64] := hp'.left; have h2 := hp'.right
   change Has s (p + 1) _ at h2
   have hx : lex s p = (⟨3, sAt, p⟩, p + 1) := lex_sign h1 rfl (fun _ => rfl); obtain ⟨hr, _⟩ := given_name (a := (FS.on s p).t.at_) (ex := true) hq hg hk (p + 1) h2; obtain ⟨g1, g2⟩ := sign_beg hx (by simp)
   refine ⟨g1, g2, .node 1 (FS.on s p).t.at_ q true true false false (l :: ls) [], by rw [er_node, er_node], ?_⟩; rw [(atom_sign (m := m) hx (exprN s m)).1 rfl, hr]
   have e : p + 1 + (q.data.toList ++ ([46, 123] ++ (lvText l ++ (commaT ls ++ [125])))).length = p + ((if true = true then [64] else []) ++ (q.data.toList ++ ([46, 123] ++ (lvText l ++ (commaT ls ++ [125]))))).length := by simp only [if_true, List.length_append, List.length_cons, List.length_nil]; omega
   rw [e]
end
structure Full (s : ByteArray) (n m c : Nat) (e : Ex) : Prop where
 atom : tight e = 4 -> AtomT s m (xtext n e) e
 app : 3 <= tight e -> AppT s m (xtext n e) e c
 eq : 2 <= tight e -> EqT s m (xtext n e) e
 ex : ExT s m (xtext n e) e
def opT (n : Nat) (x : Ex) (k : Nat) : List UInt8 := if tight x < k then inBr (xtext n x) else xtext n x
theorem tight_le (e : Ex) : tight e <= 4 := by
 unfold tight
 split
 . omega
 split
 . omega
 split
 . omega
 split <;> omega
section
variable {s : ByteArray} {n m c : Nat} {e : Ex}
theorem Full.of_atom (h : AtomT s m (xtext n e) e) : Full s n m 0 e := ⟨fun _ => h, fun _ => h.app, fun _ => h.app.eq, h.app.eq.ex⟩
theorem Full.of_app (ht : tight e = 3) (h : AppT s m (xtext n e) e c) : Full s n m c e := ⟨fun x => by omega, fun _ => h, fun _ => h.eq, h.eq.ex⟩
theorem Full.of_eq (ht : tight e = 2) (h : EqT s m (xtext n e) e) : Full s n m 0 e := ⟨fun x => by omega, fun x => by omega, fun _ => h, h.ex⟩
theorem Full.of_ex (ht : tight e <= 1) (h : ExT s m (xtext n e) e) : Full s n m 0 e := ⟨fun x => by omega, fun x => by omega, fun x => by omega, h⟩
theorem op4 (h : Full s n m c e) (h' : Full s n (m + 1) c e) : AtomT s (m + 1) (opT n e 4) e := by
 unfold opT
 split
 . exact h.ex.br
 . exact h'.atom (by have := tight_le e; omega)
theorem op3 (h : Full s n m c e) (h' : Full s n (m + 1) c e) : AppT s (m + 1) (opT n e 3) e (if tight e < 3 then 0 else c) := by
 unfold opT
 split
 . exact h.ex.br.app
 . exact h'.app (by omega)
theorem op2 (h : Full s n m c e) (h' : Full s n (m + 1) c e) : EqT s (m + 1) (opT n e 2) e := by
 unfold opT
 split
 . exact h.ex.br.app.eq
 . exact h'.eq (by omega)
end
def Again (e : Ex) : Prop := ∃ N M c, c < M /\ ∀ s n m, N <= n -> M <= m -> Full s n m c e
theorem split1 {n N : Nat} (h : N + 1 <= n) : ∃ k, n = k + 1 /\ N <= k := ⟨n - 1, by omega, by omega⟩
theorem lneeds : ∀ (ls : List LvB), ∃ M, ∀ x ∈ ls, need x 0 < M
 | [] => ⟨0, fun x hx => absurd hx (by simp)⟩
 | y :: ls => by
   obtain ⟨M, h⟩ := lneeds ls; refine ⟨M + need y 0 + 1, fun x hx => ?_⟩
   rcases List.mem_cons.1 hx with rfl | hx
   . omega
   . have := h x hx
     omega
theorem again_atom {e : Ex} {M : Nat} (h : ∀ s n m, M <= m -> AtomT s m (xtext (n + 1) e) e) : Again e :=
 ⟨1, M + 1, 0, by omega, fun s n m hn hm => by
   obtain ⟨k, rfl, _⟩ := split1 (N := 0) hn; exact Full.of_atom (h s k m (by omega))⟩
theorem gx_again : ∀ {e : Ex}, GX e -> Again e := by
 intro e h
 induction h with
 | name a q ex hq =>
   refine again_atom (M := 0) fun s n m _ => ?_
   cases ex with
   | false =>
     have e : xtext (n + 1) (.node 1 a q false false false false [] []) = q.data.toList := by
      show [] ++ q.data.toList ++ [] = _
      simp
     rw [e]; exact name_atom a q hq
   | true =>
     have e : xtext (n + 1) (.node 1 a q true false false false [] []) = [64] ++ q.data.toList := by
      show [64] ++ q.data.toList ++ [] = _
      simp
     rw [e]; exact at_atom a q hq
 | given a q ex l ls hq hg =>
   obtain ⟨M, hM⟩ := lneeds (l :: ls); exact again_atom (M := M + ls.length) fun s n m hm => given_atom a q ex l ls hq (fun x hx => ⟨hg x hx, by have := hM x hx; omega⟩) (by omega)
 | hole a => exact again_atom (M := 0) fun s n m _ => hole_atom a
 | sort a l hl =>
   refine again_atom (M := need l 0 + 1) fun s n m hm => ?_
   show AtomT s m (sortText l) (sortX a l); unfold sortText
   split
   . exact prop_atom a
   . exact type_atom a
   . exact sort_atom a l hl (by omega)
 | app a f x hf hx ihf ihx =>
   obtain ⟨N1, M1, c1, k1, r1⟩ := ihf; obtain ⟨N2, M2, c2, k2, r2⟩ := ihx; have he : isEq (appX a f x) = false := GX.app_eq hf
   have ht : tight (appX a f x) = 3 := by unfold tight; rw [if_neg (by rw [he]; simp), if_pos (show (appX a f x).kd = 4 from rfl)]
   refine ⟨N1 + N2 + 1, M1 + M2 + c1 + 2, (if tight f < 3 then 0 else c1) + 1, by split <;> omega, fun s n m hn hm => ?_⟩; obtain ⟨k, rfl, hk⟩ := split1 hn; obtain ⟨j, rfl, hj⟩ := split1 (N := M1 + M2 + c1 + 1) hm
   have e : xtext (k + 1) (appX a f x) = opT k f 3 ++ [32] ++ opT k x 4 := by
    simp only [xtext]
    rw [if_neg (by rw [he]; simp)]
    rfl
   refine Full.of_app ht ?_; rw [e]
   exact app_read (op3 (r1 s k j (by omega) (by omega)) (r1 s k (j + 1) (by omega) (by omega))) (op4 (r2 s k j (by omega) (by omega)) (r2 s k (j + 1) (by omega) (by omega))) (by split <;> omega)
 | eq a b c x y hx hy ihx ihy =>
   obtain ⟨N1, M1, c1, k1, r1⟩ := ihx; obtain ⟨N2, M2, c2, k2, r2⟩ := ihy; refine ⟨N1 + N2 + 1, M1 + M2 + 2, 0, by omega, fun s n m hn hm => ?_⟩; obtain ⟨k, rfl, hk⟩ := split1 hn
   obtain ⟨j, rfl, hj⟩ := split1 (N := M1 + M2 + 1) hm; have e : xtext (k + 1) (appX a (appX b (.node 1 c wEq false false true false [] []) x) y) = opT k x 3 ++ [32, 61, 32] ++ opT k y 3 := rfl
   refine Full.of_eq rfl ?_; rw [e]; exact eq_read (op3 (r1 s k j (by omega) (by omega)) (r1 s k (j + 1) (by omega) (by omega))) (op3 (r2 s k j (by omega) (by omega)) (r2 s k (j + 1) (by omega) (by omega)))
 | func a q im t e hq ht he iht ihe =>
   obtain ⟨N1, M1, c1, k1, r1⟩ := iht; obtain ⟨N2, M2, c2, k2, r2⟩ := ihe; refine ⟨N1 + N2 + 1, M1 + M2 + 2, 0, by omega, fun s n m hn hm => ?_⟩; obtain ⟨k, rfl, hk⟩ := split1 hn
   obtain ⟨j, rfl, hj⟩ := split1 (N := M1 + M2 + 1) hm; exact Full.of_ex (Nat.zero_le _) (fun_read hq (r1 s k j (by omega) (by omega)).ex (r2 s k j (by omega) (by omega)).ex)
 | all a q im t e hq ht he iht ihe =>
   obtain ⟨N1, M1, c1, k1, r1⟩ := iht; obtain ⟨N2, M2, c2, k2, r2⟩ := ihe; have hz : ¬ q.size = 0 := by have := hq.pos; omega
   refine ⟨N1 + N2 + 1, M1 + M2 + 2, 0, by omega, fun s n m hn hm => ?_⟩; obtain ⟨k, rfl, hk⟩ := split1 hn; obtain ⟨j, rfl, hj⟩ := split1 (N := M1 + M2 + 1) hm
   have e1 : xtext (k + 1) (.node 6 a q false false false im [] [t, e]) = [102, 111, 114, 97, 108, 108, 32] ++ binderT q im (xtext k t) ++ [44, 32] ++ xtext k e := by
    show (if q.size = 0 then _ else _) = _; rw [if_neg hz]
    rfl
   have e2 : tight (.node 6 a q false false false im [] [t, e]) = 0 := by
    unfold tight; rw [if_neg (by show ¬ (false = true); decide), if_neg (by show ¬ (6 = 4); decide), if_neg (fun x => hz x.2), if_pos (.inr (.inl rfl))]
   refine Full.of_ex (by omega) ?_; rw [e1]; exact all_read hq (r1 s k j (by omega) (by omega)).ex (r2 s k j (by omega) (by omega)).ex
 | arrow a t e ht he iht ihe =>
   obtain ⟨N1, M1, c1, k1, r1⟩ := iht; obtain ⟨N2, M2, c2, k2, r2⟩ := ihe; refine ⟨N1 + N2 + 1, M1 + M2 + 2, 0, by omega, fun s n m hn hm => ?_⟩; obtain ⟨k, rfl, hk⟩ := split1 hn
   obtain ⟨j, rfl, hj⟩ := split1 (N := M1 + M2 + 1) hm; have e1 : xtext (k + 1) (.node 6 a ⟨#[]⟩ false false false false [] [t, e]) = opT k t 2 ++ [32, 45, 62, 32] ++ xtext k e := rfl
   refine Full.of_ex (Nat.le_refl _) ?_; rw [e1]; exact arrow_read (op2 (r1 s k j (by omega) (by omega)) (r1 s k (j + 1) (by omega) (by omega))) (r2 s k j (by omega) (by omega)).ex
 | lets a q t v b hq ht hv hb iht ihv ihb =>
   obtain ⟨N1, M1, c1, k1, r1⟩ := iht; obtain ⟨N2, M2, c2, k2, r2⟩ := ihv; obtain ⟨N3, M3, c3, k3, r3⟩ := ihb; refine ⟨N1 + N2 + N3 + 1, M1 + M2 + M3 + 2, 0, by omega, fun s n m hn hm => ?_⟩
   obtain ⟨k, rfl, hk⟩ := split1 hn; obtain ⟨j, rfl, hj⟩ := split1 (N := M1 + M2 + M3 + 1) hm
   exact Full.of_ex (Nat.zero_le _) (let_read hq (r1 s k j (by omega) (by omega)).ex (r2 s k j (by omega) (by omega)).ex (r3 s k j (by omega) (by omega)).ex)
 | is a e t he ht ihe iht =>
   obtain ⟨N1, M1, c1, k1, r1⟩ := ihe; obtain ⟨N2, M2, c2, k2, r2⟩ := iht; refine ⟨N1 + N2 + 1, M1 + M2 + 2, 0, by omega, fun s n m hn hm => ?_⟩; obtain ⟨k, rfl, hk⟩ := split1 hn
   obtain ⟨j, rfl, hj⟩ := split1 (N := M1 + M2 + 1) hm; exact Full.of_atom (is_read (r1 s k j (by omega) (by omega)).ex (r2 s k j (by omega) (by omega)).ex)
theorem runTo_after {f : Nat -> Bool} {s : ByteArray} : ∀ (k p : Nat), s.size - p = k -> runTo f s p < s.size -> f (at_ s (runTo f s p)) = false
 | 0, p, hk, h => by
   rw [runTo_end (by omega)] at h; omega
 | k + 1, p, hk, h => by
   cases hf : f (at_ s p) with
   | true =>
     rw [runTo_step (by omega) hf] at h ⊢; exact runTo_after k (p + 1) (by omega) h
   | false => rw [runTo_stop hf] at h ⊢; exact hf
theorem dots_ends {s : ByteArray} : ∀ (k q : Nat), s.size - q <= k -> q <= s.size -> (q < s.size -> partB (at_ s q) = false) -> Ends s (dots s q) := by
 intro k
 induction k with
 | zero =>
   intro q hk hq hb; rw [dots_stop (by omega)]; exact ⟨hb, by omega⟩
 | succ k ih =>
   intro q hk hq hb
   by_cases hc : q + 1 < s.size /\ at_ s q = 46 /\ alphaB (at_ s (q + 1)) = true
   . rw [dots_step hc.1 hc.2.1 hc.2.2]
     have h2 := runTo_ge partB s (q + 1); have h3 := runTo_le partB s (k := q + 1) (by omega); exact ih _ (by omega) h3 (fun h => runTo_after _ (q + 1) rfl h)
   . rw [dots_stop hc]
     exact ⟨hb, hc⟩
theorem lnameEnd_ends {s : ByteArray} {p : Nat} (h : p <= s.size) : Ends s (lnameEnd s p) := dots_ends _ _ (Nat.le_refl _) (runTo_le partB s h) (fun h => runTo_after _ p rfl h)
theorem pz_has_self {s : ByteArray} {p e : Nat} (h : p <= e) (he : e <= s.size) : Has s p (s.extract p e).data.toList /\ (s.extract p e).size = e - p := by
 have hz : (s.extract p e).size = e - p := by rw [ByteArray.size_extract]; omega
 have hl : (s.extract p e).data.toList.length = e - p := by rw [Array.length_toList]; exact hz
 refine ⟨⟨by rw [hl]; omega, fun i hi => ?_⟩, hz⟩; rw [hl] at hi; have e1 := at_data (s.extract p e) i (by show i < (s.extract p e).size; omega); have e2 := at_extract (s := s) (a := p) (b := e) (i := i) he (by omega)
 rw [<- e2, e1]
theorem lexAt_lnm {s : ByteArray} {p : Nat} (h : p < s.size) (hk : (lexAt s p).1.kd = 1) : LNm (lexAt s p).1.t := by
 unfold lexAt at hk ⊢
 split at hk
 . rename_i ha
   rw [if_pos ha]
   split at hk
   . simp at hk
   . rename_i hf
     rw [if_neg hf]
     split at hk
     . simp at hk
     . rename_i hw
       rw [if_neg hw]; have h1 := lnameEnd_le (s := s) (p := p) (by omega); obtain ⟨hs, hz⟩ := pz_has_self h1.1 h1.2; have hE := lnameEnd_ends (s := s) (p := p) (by omega)
       have e0 : p + (s.extract p (lnameEnd s p)).size = lnameEnd s p := by omega
       have h4 : p < lnameEnd s p := by
        have h5 := runTo_more (f := partB) h (by simp [partB, ha]); have h6 := (dots_le (s := s) (q := runTo partB s p) (runTo_le partB s (by omega))).1; unfold lnameEnd; omega
       show LNm (s.extract p (lnameEnd s p)); generalize hq : s.extract p (lnameEnd s p) = q at hs hz hw e0 ⊢; rw [<- e0] at hE
       have hn : lnameEnd s p = p + lnameEnd q 0 := by
        have e1 := runTo_in hs hE.1 _ 0 rfl (Nat.zero_le _); rw [Nat.add_zero] at e1; unfold lnameEnd; rw [e1, dots_in hs hE.1 hE.2 _ _ (Nat.le_refl _) (runTo_le partB q (Nat.zero_le _))]
       have ha0 : at_ s p = at_ q 0 := at_in hs (i := 0) (by omega)
       refine ⟨by omega, by omega, by rw [<- ha0]; exact ha, by omega, ?_⟩
       simpa using hw
 . rename_i ha
   split at hk
   . split at hk <;> simp at hk
   . split at hk
     . simp at hk
     . split at hk <;> simp at hk
theorem lex_lnm {s : ByteArray} {p : Nat} (h : p <= s.size) (hk : (lex s p).1.kd = 1) : LNm (lex s p).1.t := by
 have h1 := skip_le h; unfold lex at hk ⊢
 split at hk
 . simp at hk
 . rename_i hn
   rw [if_neg hn]; exact lexAt_lnm (by omega) hk
theorem good_more : ∀ (l : LvB) (j k : Nat), GoodAt l j -> chain l + j + k < 100 -> GoodAt l (j + k)
 | .succ a, j, k, h, hc => by
   have := good_more a (j + 1) k h (by simp only [chain] at hc; omega); show GoodAt a (j + k + 1); rw [show j + k + 1 = j + 1 + k by omega]; exact this
 | .zero, j, k, _, hc => by show j + k < 100; simp only [chain] at hc; omega
 | .param q, j, k, h, hc => ⟨by simp only [chain] at hc; omega, h.2⟩
 | .max a b, j, k, h, hc => ⟨by simp only [chain] at hc; omega, h.2⟩
 | .imax a b, j, k, h, hc => ⟨by simp only [chain] at hc; omega, h.2⟩
theorem good_succ : ∀ (k : Nat) (l : LvB), GoodAt l k -> GoodAt (succN k l) 0
 | 0, _, h => h
 | k + 1, l, h => good_succ k (.succ l) h
section
variable {s : ByteArray}
end
theorem lex_few {s : ByteArray} {p : Nat} (hp : p <= s.size) (h : (lex s p).1.kd = 2) : decV (lex s p).1.t < 100 := by
 have key : Digs (lex s p).1.t /\ (lex s p).1.t.size <= 2 := by
  have hle := skip_le hp; unfold lex at h ⊢
  split at h
  . simp at h
  . rename_i hne
    rw [if_neg hne]; unfold lexAt at h ⊢
    split at h
    . split at h
      . simp at h
      . split at h
        . simp at h
        . simp at h
    . rename_i ha
      rw [if_neg ha]
      split at h
      . rename_i hd
        rw [if_pos hd]
        split at h
        . simp at h
        . rename_i hn
          rw [if_neg hn]; refine ⟨run_digs hle.2 rfl, ?_⟩
          simp only [ByteArray.size_extract]
          omega
      . split at h
        . simp at h
        . split at h
          . simp at h
          . simp at h
 have h1 := decF_lt (lex s p).1.t.data.toList 0 key.1; have h2 : (lex s p).1.t.data.toList.length <= 2 := by rw [Array.length_toList]; exact key.2
 have h3 : 10 ^ (lex s p).1.t.data.toList.length <= 10 ^ 2 := Nat.pow_le_pow_right (by omega) h2; show decF 0 (lex s p).1.t.data.toList < 100; omega
structure FS.Sd (s : ByteArray) (st : FS) : Prop where
 ok : st.Ok s
 nm : st.code = 0 -> st.t.kd = 1 -> LNm st.t.t
 num : st.code = 0 -> st.t.kd = 2 -> decV st.t.t < 100
theorem FS.fail_code {st : FS} : st.fail.code ≠ 0 := by
 unfold FS.fail
 split
 . simp
 . assumption
theorem FS.Sd.fail {s : ByteArray} {st : FS} (h : st.Sd s) : st.fail.Sd s := ⟨h.ok.fail, fun hc => absurd hc FS.fail_code, fun hc => absurd hc FS.fail_code⟩
theorem FS.Sd.step {s : ByteArray} {st : FS} (h : st.Sd s) : (st.step s).Sd s := by
 refine ⟨h.ok.step, fun hc hk => ?_, fun hc hk => ?_⟩ <;> unfold FS.step at hc hk ⊢ <;> split at hc
 . rename_i h0
   rw [if_pos h0] at hk ⊢; exact lex_lnm h.ok.le hk
 . rename_i h0
   exact absurd hc h0
 . rename_i h0
   rw [if_pos h0] at hk ⊢; exact lex_few h.ok.le hk
 . rename_i h0
   exact absurd hc h0
structure Sn (s : ByteArray) (st st' : FS) : Prop where
 ok : st'.Sd s
 left : st'.left s <= st.left s
 code : st.code ≠ 0 -> st' = st
section
variable {s : ByteArray} {st st1 st2 : FS}
theorem Sn.refl (h : st.Sd s) : Sn s st st := ⟨h, Nat.le_refl _, fun _ => rfl⟩
theorem Sn.trans (h : Sn s st st1) (h' : Sn s st1 st2) : Sn s st st2 := ⟨h'.ok, Nat.le_trans h'.left h.left, fun hc => by have e := h.code hc; rw [<- e]; exact h'.code (by rw [e]; exact hc)⟩
theorem Sn.fail (h : Sn s st st1) : Sn s st st1.fail := h.trans ⟨h.ok.fail, FS.fail_left, fun hc => by unfold FS.fail; rw [if_neg hc]⟩
theorem Sn.step (h : Sn s st st1) : Sn s st (st1.step s) := h.trans ⟨h.ok.step, FS.step_le h.ok.ok, fun hc => by unfold FS.step; rw [if_neg hc]⟩
theorem Sn.must {q : ByteArray} (h : Sn s st st1) : Sn s st (st1.must s q) := by
 unfold FS.must
 split
 . exact h.step
 . exact h.fail
theorem Sn.name (h : Sn s st st1) : Sn s st (st1.name s).2 := by
 unfold FS.name
 split
 . exact h.step
 . exact h.fail
theorem Sn.raised {l : LvB} (h : Sn s st st1) : Sn s st (raised s l st1).2 := by
 unfold Proofs.YtockffblncdikaaGreatDoor.raised
 split
 . split
   . exact h.fail
   . exact h.step
 . exact h.fail
end
def Sfw {α : Type} (s : ByteArray) (E : FS -> α × FS) : Prop := ∀ st, st.Sd s -> Sn s st (E st).2
theorem Sfw.sn {α : Type} {s : ByteArray} {E : FS -> α × FS} (h : Sfw s E) {st st1 : FS} (hd : Sn s st st1) : Sn s st (E st1).2 := hd.trans (h st1 hd.ok)
section
variable {s : ByteArray}
theorem latomF_sfw {L : FS -> LvB × FS} (hL : Sfw s L) : Sfw s (latomF s L) := fun st h => by
 unfold latomF
 split
 . exact (Sn.refl h).raised
 . split
   . exact (Sn.refl h).name
   . split
     . exact (hL.sn (Sn.refl h).step).must
     . exact (Sn.refl h).fail
theorem plusN_sfw : ∀ (m : Nat) (l : LvB), Sfw s (plusN s m l)
 | 0, _ => fun st h => Sn.refl h
 | m + 1, l => fun st h => by
   simp only [plusN]
   split
   . exact (plusN_sfw m _).sn (Sn.refl h).step.raised
   . exact Sn.refl h
theorem twoF_sfw {L : FS -> LvB × FS} (hL : Sfw s L) {st st1 : FS} (hd : Sn s st st1) : Sn s st (twoF s L st1).2.2 := (latomF_sfw hL).sn ((latomF_sfw hL).sn hd)
theorem levelF_sfw {L : FS -> LvB × FS} (hL : Sfw s L) (m : Nat) : Sfw s (levelF s L m) := fun st h => by
 unfold levelF
 split
 . exact twoF_sfw hL (Sn.refl h).step
 . split
   . exact twoF_sfw hL (Sn.refl h).step
   . exact (plusN_sfw m _).sn (latomF_sfw hL st h)
theorem levelN_sfw : ∀ n, Sfw s (levelN s n)
 | 0 => fun _ h => Sn.refl h
 | n + 1 => levelF_sfw (levelN_sfw n) (n + 1)
theorem latomN_sfw (n : Nat) : Sfw s (latomN s n) := latomF_sfw (levelN_sfw n)
theorem levelsN_sfw (n : Nat) : ∀ (m : Nat) (ls : List LvB), Sfw s (levelsN s n m ls)
 | 0, _ => fun st h => Sn.refl h
 | m + 1, ls => fun st h => by
   simp only [levelsN]
   split
   . exact (levelsN_sfw n m _).sn ((levelN_sfw n).sn (Sn.refl h).step)
   . exact Sn.refl h
theorem nameX_sfw (n a : Nat) (ex : Bool) : Sfw s (nameX s n a ex) := fun st h => by
 unfold nameX
 simp only
 split
 . exact ((levelsN_sfw n n _).sn ((levelN_sfw n).sn (Sn.refl h).name.step)).must
 . exact (Sn.refl h).name
variable {n : Nat} {E : FS -> Ex × FS}
theorem bracketX_sfw (hE : Sfw s E) (a : Nat) : Sfw s (bracketX s E a) := fun st h => by
 unfold bracketX
 simp only
 split
 . exact (hE.sn (hE.sn (Sn.refl h)).step).must
 . exact (hE.sn (Sn.refl h)).must
theorem atomF_sfw (hE : Sfw s E) : Sfw s (atomF s n E) := fun st h => by
 unfold atomF
 split
 . exact nameX_sfw _ _ _ st h
 split
 . exact (nameX_sfw _ _ _).sn (Sn.refl h).step
 split
 . exact (Sn.refl h).step
 split
 . exact (Sn.refl h).step
 split
 . split
   . exact (Sn.refl h).step.raised
   . exact (Sn.refl h).step
 split
 . exact (latomN_sfw n).sn (Sn.refl h).step
 split
 . exact (bracketX_sfw hE _).sn (Sn.refl h).step
 . exact (Sn.refl h).fail
theorem applyN_sfw (hE : Sfw s E) : ∀ (m : Nat) (e : Ex), Sfw s (applyN s n E m e)
 | 0, _ => fun st h => Sn.refl h
 | m + 1, e => fun st h => by
   simp only [applyN]
   split
   . exact (applyN_sfw hE m _).sn (atomF_sfw hE st h)
   . exact Sn.refl h
theorem applyF_sfw (hE : Sfw s E) : Sfw s (applyF s n E) := fun st h => (applyN_sfw hE n _).sn (atomF_sfw hE st h)
theorem equalF_sfw (hE : Sfw s E) : Sfw s (equalF s n E) := fun st h => by
 unfold equalF
 simp only
 split
 . exact (applyF_sfw hE).sn (applyF_sfw hE st h).step
 . exact applyF_sfw hE st h
theorem namesN_sfw : ∀ (m : Nat) (l : List (ByteArray × Nat)), Sfw s (namesN s m l)
 | 0, _ => fun st h => Sn.refl h
 | m + 1, l => fun st h => by
   simp only [namesN]
   split
   . exact (namesN_sfw m _).sn (Sn.refl h).name
   . exact (Sn.refl h).name
theorem groupF_sfw (hE : Sfw s E) : Sfw s (groupF s n E) := fun st h => by
 unfold groupF
 simp only
 split
 . exact (hE.sn ((namesN_sfw (n + 1) []).sn (Sn.refl h).step).must).must
 . exact (hE.sn ((namesN_sfw (n + 1) []).sn (Sn.refl h).must).must).must
theorem groupsN_sfw (hE : Sfw s E) : ∀ (m : Nat) (l : List Bd), Sfw s (groupsN s n E m l)
 | 0, _ => fun st h => Sn.refl h
 | m + 1, l => fun st h => by
   simp only [groupsN]
   split
   . exact (groupsN_sfw hE m _).sn (groupF_sfw hE st h)
   . exact Sn.refl h
theorem funsN_sfw (hE : Sfw s E) : ∀ (m : Nat) (l : List Bd), Sfw s (funsN s n E m l)
 | 0, _ => fun st h => Sn.refl h
 | m + 1, l => fun st h => by
   simp only [funsN]
   split
   . exact (funsN_sfw hE m _).sn (Sn.refl h).name
   . split
     . exact (funsN_sfw hE m _).sn (groupF_sfw hE st h)
     . exact Sn.refl h
theorem some1_sn {st : FS} {p : List Bd × FS} (h : Sn s st p.2) : Sn s st (some1 p).2 := by
 unfold some1
 split
 . exact h.fail
 . exact h
theorem letX_sfw (hE : Sfw s E) : Sfw s (letX s E) := fun _ h => hE.sn (hE.sn (hE.sn (Sn.refl h).name.must).must).must
theorem exprF_sfw (hE : Sfw s E) : Sfw s (exprF s n E) := fun st h => by
 unfold exprF
 simp only
 split
 . exact hE.sn (some1_sn ((funsN_sfw hE n []).sn (Sn.refl h).step)).must
 split
 . exact hE.sn (some1_sn ((groupsN_sfw hE n []).sn (Sn.refl h).step)).must
 split
 . exact (letX_sfw hE).sn (Sn.refl h).step
 split
 . exact hE.sn (equalF_sfw hE st h).step
 . exact equalF_sfw hE st h
end
theorem exprN_sfw {s : ByteArray} : ∀ n, Sfw s (exprN s n)
 | 0 => fun _ h => Sn.refl h
 | n + 1 => exprF_sfw (exprN_sfw n)
section
variable {s : ByteArray}
theorem moreN_sfw : ∀ (m : Nat) (l : List ByteArray), Sfw s (moreN s m l)
 | 0, _ => fun st h => Sn.refl h
 | m + 1, l => fun st h => by
   simp only [moreN]
   split
   . exact (moreN_sfw m _).sn (Sn.refl h).name
   . exact Sn.refl h
theorem commasN_sfw : ∀ (m : Nat) (l : List ByteArray), Sfw s (commasN s m l)
 | 0, _ => fun st h => Sn.refl h
 | m + 1, l => fun st h => by
   simp only [commasN]
   split
   . exact (commasN_sfw m _).sn (Sn.refl h).step.name
   . exact Sn.refl h
theorem paramsF_sfw (n : Nat) : Sfw s (paramsF s n) := fun st h => by
 unfold paramsF
 simp only
 split
 . exact ((commasN_sfw n _).sn (Sn.refl h).step.name).must
 . exact Sn.refl h
theorem tacticF_sfw (n : Nat) : Sfw s (tacticF s n) := fun st h => by
 unfold tacticF
 simp only
 generalize (if st.kin 1 = true then wordNo st.t.t tacWords 1 else 0) = k
 split
 . exact (Sn.refl h).fail
 split
 . exact (moreN_sfw n _).sn (Sn.refl h).step.name
 split
 . exact (Sn.refl h).step.name
 split
 . exact (exprN_sfw n).sn (Sn.refl h).step.name.must
 split
 . exact (exprN_sfw n).sn (Sn.refl h).step
 split
 . split
   . exact (Sn.refl h).step.step
   . exact (Sn.refl h).step.fail
 . exact (Sn.refl h).step
theorem tacticsN_sfw (n : Nat) : ∀ (m : Nat) (l : List Tc), Sfw s (tacticsN s n m l)
 | 0, _ => fun st h => Sn.refl h
 | m + 1, l => fun st h => by
   simp only [tacticsN]
   split
   . exact (tacticsN_sfw n m _).sn ((tacticF_sfw n).sn (Sn.refl h).step)
   . exact Sn.refl h
theorem ctorF_sfw (n : Nat) : Sfw s (ctorF s n) := fun _ h => (exprN_sfw n).sn (Sn.refl h).name.must
theorem ctorsN_sfw (n : Nat) : ∀ (m : Nat) (l : List Ct), Sfw s (ctorsN s n m l)
 | 0, _ => fun st h => Sn.refl h
 | m + 1, l => fun st h => by
   simp only [ctorsN]
   split
   . exact (ctorsN_sfw n m _).sn ((ctorF_sfw n).sn (Sn.refl h).step)
   . exact Sn.refl h
theorem commandF_sfw (n : Nat) : Sfw s (commandF s n) := fun st h => by
 have ht : Sn s st (exprN s n ((groupsN s n (exprN s n) n [] (paramsF s n ((st.step s).name s).2).2).2.must s sColon)).2 :=
  (exprN_sfw n).sn ((groupsN_sfw (exprN_sfw n) n []).sn ((paramsF_sfw n).sn (Sn.refl h).step.name)).must
 unfold commandF
 simp only
 generalize (if st.kin 3 = true then wordNo st.t.t kindWords 1 else 0) = k
 split
 . exact (Sn.refl h).fail
 generalize exprN s n ((groupsN s n (exprN s n) n [] (paramsF s n ((st.step s).name s).2).2).2.must s sColon) = t at ht ⊢
 split
 . exact ((exprN_sfw n).sn ht.must).must
 split
 . exact ((tacticsN_sfw n n _).sn ((tacticF_sfw n).sn ht.step)).must
 split
 . exact ((ctorsN_sfw n n _).sn ht).must
 . exact ht.must
theorem commandsN_sfw (n : Nat) : ∀ (m : Nat) (l : List Cm), Sfw s (commandsN s n m l)
 | 0, _ => fun st h => Sn.refl h
 | m + 1, l => fun st h => by
   simp only [commandsN]
   split
   . exact (commandsN_sfw n m _).sn (commandF_sfw n st h)
   . exact Sn.refl h
end
end Go.Proofs.YtockffblncdikaaGreatDoor
