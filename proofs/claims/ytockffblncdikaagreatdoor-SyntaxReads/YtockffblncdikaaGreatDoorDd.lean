/- From some depth on, a text of commands no longer depends on the depth: no walk. -/
import Derived.Test.YtockffblncdikaaGreatDoorCr
namespace Go.Proofs.YtockffblncdikaaGreatDoor
open Go.RowKit
set_option maxRecDepth 100000
set_option maxHeartbeats 16000000
def erB (b : Bd) : Bd := ⟨b.nm, b.im, er b.ty, 0⟩
def erK (k : Ct) : Ct := ⟨k.nm, 0, er k.ty⟩
def erC (c : Cm) : Cm := ⟨c.kd, 0, c.nm, c.ps, c.bs.map erB, er c.ty, er c.vl, c.tac, c.tcs.map erT, c.cts.map erK⟩
def bindT (n : Nat) (bs : List Bd) : List UInt8 := bs.flatMap fun b => [32] ++ binderT b.nm b.im (xtext n b.ty)
def tcsT (n : Nat) (l : List Tc) : List UInt8 := l.flatMap fun t => [59, 32] ++ tacText n t
def ctsT (n : Nat) (l : List Ct) : List UInt8 := l.flatMap fun k => [32, 124, 32] ++ k.nm.data.toList ++ [32, 58, 32] ++ xtext n k.ty
section
variable {s : ByteArray} {m n : Nat}
theorem pz_is_other {st : FS} {q r : ByteArray} (h : st.is q = true) (hr : q ≠ r) : st.is r = false := by
 obtain ⟨_, _, h3⟩ := FS.is_kd h
 cases hx : st.is r with
 | false => rfl
 | true => exact absurd (h3.symm.trans (FS.is_kd hx).2.2) hr
theorem is_kin {st : FS} {q : ByteArray} (h : st.is q = true) {k : Nat} (hk : k ≠ 3) : st.kin k = false := by
 obtain ⟨_, h2, _⟩ := FS.is_kd h; unfold FS.kin; rw [h2]
 simp
 omega
theorem groups_read : ∀ (bs : List Bd) (k : Nat) (l0 : List Bd) (p : Nat), (∀ b ∈ bs, LNm b.nm /\ ExT s m (xtext n b.ty) b.ty) -> bs.length <= k -> Has s p (bindT n bs ++ [32, 58, 32]) ->
 ∃ bs', bs'.map erB = bs.map erB /\ groupsN s (m + 1) (exprN s (m + 1)) k l0 (FS.on s p) = (l0 ++ bs', FS.on s (p + (bindT n bs).length)) /\ Bd4 s p
 | [], k, l0, p, _, _, hp => by
   have h' : Has s p [32, 58, 32] := by simpa [bindT] using hp
   obtain ⟨b0, c2, _⟩ := colon_at h'; refine ⟨[], rfl, ?_, b0.b2.b3.b4⟩; rw [pz_groups_stop (pz_is_other c2 (by decide)) (pz_is_other c2 (by decide)), List.append_nil]
   rfl
 | b :: bs, 0, _, _, _, hk, _ => absurd hk (by simp)
 | b :: bs, k + 1, l0, p, hq, hk, hp => by
   have e0 : bindT n (b :: bs) ++ [32, 58, 32] = [32] ++ binderT b.nm b.im (xtext n b.ty) ++ (bindT n bs ++ [32, 58, 32]) := by simp [bindT]
   rw [e0] at hp; obtain ⟨h1, h2, h3⟩ := hp.mid
   change Has s (p + 1) _ at h2
   change Has s (p + 1 + (binderT b.nm b.im (xtext n b.ty)).length) _ at h3
   obtain ⟨g1, _, t', a, et, rt⟩ := group_read (hq b (by simp)).1 (hq b (by simp)).2 (p + 1) h2
   obtain ⟨bs', eb, rb, _⟩ := groups_read bs k (l0 ++ [⟨b.nm, b.im, t', a⟩]) _ (fun x hx => hq x (by simp [hx])) (by simp only [List.length_cons] at hk; omega) h3
   refine ⟨⟨b.nm, b.im, t', a⟩ :: bs', by simp [eb, erB, et], ?_, ?_⟩
   . simp only [groupsN]
     rw [on_blank h1, if_pos g1, rt]
     simp only
     rw [rb]
     have el : p + 1 + (binderT b.nm b.im (xtext n b.ty)).length + (bindT n bs).length = p + (bindT n (b :: bs)).length := by
      have : (bindT n (b :: bs)).length = 1 + (binderT b.nm b.im (xtext n b.ty)).length + (bindT n bs).length := by simp [bindT]; omega
      omega
     rw [el]
     simp
   . refine ⟨ends_of h1 rfl (by decide), ?_, ?_⟩ <;> rw [on_blank h1] <;> rcases g1 with g1 | g1
     . exact is_kin g1 (by decide)
     . exact is_kin g1 (by decide)
     . exact pz_is_other g1 (by decide)
     . exact pz_is_other g1 (by decide)
theorem join_tacs (x : Tc) : ∀ (l : List Tc), joinT [59, 32] ((x :: l).map (tacText n)) = tacText n x ++ tcsT n l := by
 intro l
 induction l generalizing x with
 | nil => simp [joinT, tcsT]
 | cons y l ih =>
   have := ih y
   simp only [List.map_cons] at this ⊢
   simp only [joinT]
   rw [this]
   simp [tcsT]
theorem tactics_read : ∀ (l : List Tc) (k : Nat) (l0 : List Tc) (p : Nat), (∀ t ∈ l, TcT s m (tacText n t) t) -> l.length <= k -> Has s p (tcsT n l ++ [46, 10]) ->
 ∃ l', l'.map erT = l.map erT /\ tacticsN s m k l0 (FS.on s p) = (l0 ++ l', FS.on s (p + (tcsT n l).length)) /\ Bd0 s p
 | [], k, l0, p, _, _, hp => by
   have h' : Has s p [46, 10] := by simpa [tcsT] using hp
   obtain ⟨b0, c2, _⟩ := dot_at h'; refine ⟨[], rfl, ?_, b0⟩
   have e : tacticsN s m k l0 (FS.on s p) = (l0, FS.on s p) := by
    cases k with
    | zero => rfl
    | succ k => simp only [tacticsN]; rw [if_neg (by rw [pz_is_other c2 (show sDot ≠ sSemi by decide)]; simp)]
   rw [e, List.append_nil]
   rfl
 | b :: bs, 0, _, _, _, hk, _ => absurd hk (by simp)
 | b :: bs, k + 1, l0, p, hq, hk, hp => by
   have e0 : tcsT n (b :: bs) ++ [46, 10] = [59, 32] ++ tacText n b ++ (tcsT n bs ++ [46, 10]) := by simp [tcsT]
   rw [e0] at hp; obtain ⟨h1, h2, h3⟩ := hp.mid
   change Has s (p + 2) _ at h2
   change Has s (p + 2 + (tacText n b).length) _ at h3
   have c1 : Has s p [59] := h1.left (u := [32]); have c2 : Has s (p + 1) [32] := h1.right (t := [59]); have hx := lex_semi c1
   obtain ⟨bs0, _, _, b0⟩ := tactics_read bs k [] _ (fun x hx => hq x (by simp [hx])) (by simp only [List.length_cons] at hk; omega) h3; obtain ⟨t', et, rt⟩ := hq b (by simp) _ h2 b0
   obtain ⟨bs', eb, rb, _⟩ := tactics_read bs k (l0 ++ [t']) _ (fun x hx => hq x (by simp [hx])) (by simp only [List.length_cons] at hk; omega) h3; refine ⟨t' :: bs', by simp [eb, et], ?_, semi_bd c1⟩
   simp only [tacticsN]
   rw [if_pos (on_is hx), on_step hx, on_blank c2]
   change Has s (p + 1 + 1) _ at h2
   rw [rt]
   simp only
   rw [rb]
   have el : p + 2 + (tacText n b).length + (tcsT n bs).length = p + (tcsT n (b :: bs)).length := by
    have : (tcsT n (b :: bs)).length = 2 + (tacText n b).length + (tcsT n bs).length := by simp [tcsT]; omega
    omega
   rw [el]
   simp
theorem ctors_read : ∀ (l : List Ct) (k : Nat) (l0 : List Ct) (p : Nat), (∀ t ∈ l, LNm t.nm /\ ExT s m (xtext n t.ty) t.ty) -> l.length <= k -> Has s p (ctsT n l ++ [46, 10]) ->
 ∃ l', l'.map erK = l.map erK /\ ctorsN s (m + 1) k l0 (FS.on s p) = (l0 ++ l', FS.on s (p + (ctsT n l).length)) /\ Bd0 s p
 | [], k, l0, p, _, _, hp => by
   have h' : Has s p [46, 10] := by simpa [ctsT] using hp
   obtain ⟨b0, c2, _⟩ := dot_at h'; refine ⟨[], rfl, ?_, b0⟩
   have e : ctorsN s (m + 1) k l0 (FS.on s p) = (l0, FS.on s p) := by
    cases k with
    | zero => rfl
    | succ k => simp only [ctorsN]; rw [if_neg (by rw [pz_is_other c2 (show sDot ≠ sBar by decide)]; simp)]
   rw [e, List.append_nil]
   rfl
 | b :: bs, 0, _, _, _, hk, _ => absurd hk (by simp)
 | b :: bs, k + 1, l0, p, hq, hk, hp => by
   have e0 : ctsT n (b :: bs) ++ [46, 10] = [32, 124, 32] ++ b.nm.data.toList ++ ([32, 58, 32] ++ (xtext n b.ty ++ (ctsT n bs ++ [46, 10]))) := by simp [ctsT]
   rw [e0] at hp; obtain ⟨h1, h2, h3⟩ := hp.mid
   change Has s (p + 3) _ at h2
   change Has s (p + 3 + b.nm.data.toList.length) _ at h3
   have h4 := h3.left; have h5 := h3.right.left; have h6 := h3.right.right
   change Has s (p + 3 + b.nm.data.toList.length + 3) _ at h5
   change Has s (p + 3 + b.nm.data.toList.length + 3 + (xtext n b.ty).length) _ at h6
   obtain ⟨q0, q1, q2, _⟩ := bar_at h1; obtain ⟨_, c2, c3, c4, _⟩ := colon_at h4; have hn := (hq b (by simp)).1.toks h2 c4
   obtain ⟨bs0, _, _, b0⟩ := ctors_read bs k [] _ (fun x hx => hq x (by simp [hx])) (by simp only [List.length_cons] at hk; omega) h6; obtain ⟨t', et, rt⟩ := (hq b (by simp)).2 _ h5 b0
   obtain ⟨bs', eb, rb, _⟩ := ctors_read bs k (l0 ++ [⟨b.nm, (FS.on s (p + 3)).t.at_, t'⟩]) _ (fun x hx => hq x (by simp [hx])) (by simp only [List.length_cons] at hk; omega) h6
   refine ⟨⟨b.nm, (FS.on s (p + 3)).t.at_, t'⟩ :: bs', by simp [eb, erK, et], ?_, q0⟩
   simp only [ctorsN]
   rw [if_pos q1, q2]; unfold ctorF
   simp only
   rw [name_on hn]
   simp only
   rw [must_is c2, c3, rt]
   simp only
   rw [rb]
   have el : p + 3 + b.nm.data.toList.length + 3 + (xtext n b.ty).length + (ctsT n bs).length = p + (ctsT n (b :: bs)).length := by
    have : (ctsT n (b :: bs)).length = 3 + b.nm.data.toList.length + 3 + (xtext n b.ty).length + (ctsT n bs).length := by simp [ctsT]; omega
    omega
   rw [el]
   simp
end
def CmT (s : ByteArray) (m : Nat) (txt : List UInt8) (c : Cm) : Prop := ∀ p, Has s p txt -> ∃ c', erC c' = erC c /\ commandF s m (FS.on s p) = (c', FS.on s (p + txt.length)) /\ (FS.on s p).t.kd ≠ 0
abbrev kindW (k : Nat) : ByteArray := kindWords.getD (k - 1) ⟨#[]⟩
theorem kindW_ok {k : Nat} (h1 : 1 <= k) (h2 : k <= 4) : 0 < (kindW k).size /\ (kindW k).size <= 40 /\ alphaB (at_ (kindW k) 0) = true /\ lnameEnd (kindW k) 0 = (kindW k).size /\ isWord (kindW k) = true /\ wordNo (kindW k) kindWords 1 = k := by
 obtain rfl | rfl | rfl | rfl : k = 1 \/ k = 2 \/ k = 3 \/ k = 4 := by omega
 all_goals exact ⟨by decide +kernel, by decide +kernel, by decide +kernel, by decide +kernel, by decide +kernel, by decide +kernel⟩
theorem list_more {α : Type} {P : α -> ByteArray -> Nat -> Nat -> Prop} : ∀ (l : List α), (∀ x ∈ l, ∃ N M, ∀ s n m, N <= n -> M <= m -> P x s n m) -> ∃ N M, ∀ x ∈ l, ∀ s n m, N <= n -> M <= m -> P x s n m
 | [], _ => ⟨0, 0, fun x hx => absurd hx (by simp)⟩
 | y :: l, h => by
   obtain ⟨N1, M1, h1⟩ := h y (by simp); obtain ⟨N2, M2, h2⟩ := list_more l fun x hx => h x (by simp [hx])
   refine ⟨N1 + N2, M1 + M2, fun x hx s n m hn hm => ?_⟩
   rcases List.mem_cons.1 hx with rfl | hx
   . exact h1 s n m (by omega) (by omega)
   . exact h2 x hx s n m (by omega) (by omega)
section
variable {s : ByteArray} {m n : Nat}
def headT (n : Nat) (c : Cm) : List UInt8 := (kindW c.kd).data.toList ++ [32] ++ (c.nm.data.toList ++ (paramsT c.ps ++ (bindT n c.bs ++ ([32, 58, 32] ++ xtext n c.ty))))
def tailT (n : Nat) (c : Cm) : List UInt8 := (if c.tac = true then (if c.tcs.isEmpty = true then [] else [32, 98, 121, 32] ++ joinT [59, 32] (c.tcs.map (tacText n))) else if c.kd = 2 \/ c.kd = 3 then [32, 58, 61, 32] ++ xtext n c.vl else []) ++ (ctsT n c.cts ++ [46, 10])
theorem comm_text (n : Nat) (c : Cm) : commText n c = headT n c ++ tailT n c := by
 unfold commText headT tailT paramsT bindT ctsT
 simp only [List.append_assoc]
theorem head_read {c : Cm} (hk : 1 <= c.kd /\ c.kd <= 4) (hn : LNm c.nm) (hps : ∀ q ∈ c.ps, LNm q) (hbs : ∀ b ∈ c.bs, LNm b.nm /\ ExT s m (xtext n b.ty) b.ty) (ht : ExT s m (xtext n c.ty) c.ty) (l1 : c.ps.length <= m + 1) (l2 : c.bs.length <= m + 1) (p : Nat) (hp : Has s p (headT n c)) (hb : Bd0 s (p + (headT n c).length)) :
 (FS.on s p).t.kd ≠ 0 /\ (if (FS.on s p).kin 3 = true then wordNo (FS.on s p).t.t kindWords 1 else 0) = c.kd /\ ∃ S1 S2 S3 bs' t', bs'.map erB = c.bs.map erB /\ er t' = er c.ty /\ ((FS.on s p).step s).name s = (c.nm, S1) /\ paramsF s (m + 1) S1 = (c.ps, S2) /\ groupsN s (m + 1) (exprN s (m + 1)) (m + 1) [] S2 = (bs', S3) /\ exprN s (m + 1) (S3.must s sColon) = (t', FS.on s (p + (headT n c).length)) := by
 unfold headT at hp; obtain ⟨h1, h2, h3⟩ := hp.mid; obtain ⟨w1, w2, w3, w4, w5, w6⟩ := kindW_ok hk.1 hk.2; obtain ⟨hx, hx2⟩ := word_sp (q := kindW c.kd) hp.left w1 w2 w3 w4 w5
 generalize hA : p + (kindW c.kd).data.toList.length = A at h3 hx hx2
 change Has s (A + 1) _ at h3
 have q1 := h3.left; have q2 := h3.right.left; have q3 := h3.right.right; generalize hB : A + 1 + c.nm.data.toList.length = Bx at q2 q3; generalize hC : Bx + (paramsT c.ps).length = C at q3
 have r1 : Has s C (bindT n c.bs ++ [32, 58, 32]) := by
  have : bindT n c.bs ++ ([32, 58, 32] ++ xtext n c.ty) = (bindT n c.bs ++ [32, 58, 32]) ++ xtext n c.ty := by simp
  rw [this] at q3; exact q3.left
 have r2 := q3.right.left; have r3 := q3.right.right; generalize hD : C + (bindT n c.bs).length = D at r2 r3
 change Has s (D + 3) _ at r3
 have el : p + (headT n c).length = D + 3 + (xtext n c.ty).length := by
  unfold headT
  simp only [List.length_append, List.length_cons, List.length_nil]
  omega
 rw [el] at hb ⊢; obtain ⟨_, c2, c3, _⟩ := colon_at r2; obtain ⟨bs', eb, rb, b4⟩ := groups_read c.bs (m + 1) [] C hbs l2 r1; obtain ⟨rp, pe⟩ := params_read (m := m + 1) c.ps hps l1 Bx q2 (by rw [hC]; exact b4)
 have nn := hn.toks q1 (by rw [hB]; exact pe); obtain ⟨t', et, rt⟩ := ht _ r3 hb; have kt : (FS.on s p).t = ⟨3, kindW c.kd, p⟩ := by unfold FS.on; rw [hx]
 refine ⟨by rw [kt]; simp, by rw [if_pos (by rw [on_kin hx]; rfl), kt, w6], FS.on s Bx, FS.on s C, FS.on s D, bs', t', eb, et, ?_, ?_, ?_, ?_⟩
 . rw [on_step hx, hx2, name_on nn, hB]
 . rw [rp, hC]
 . rw [rb, hD]; simp
 . rw [must_is c2, c3]; exact rt
end
theorem cmd_again {c : Cm} (h : GCm c) : ∃ N M, ∀ s n m, N <= n -> M <= m -> CmT s m (commText n c) c := by
 obtain ⟨N1, M1, a1⟩ := ext_more (gx_again h.ty); obtain ⟨N2, M2, a2⟩ := list_more (P := fun (b : Bd) s n m => ExT s m (xtext n b.ty) b.ty) c.bs fun b hb => ext_more (gx_again (h.bs b hb).2)
 obtain ⟨N3, M3, a3⟩ := list_more (P := fun (k : Ct) s n m => ExT s m (xtext n k.ty) k.ty) c.cts fun k hk => ext_more (gx_again (h.cts k hk).ty)
 obtain ⟨N4, M4, a4⟩ := list_more (P := fun (t : Tc) s n m => TcT s m (tacText n t) t) c.tcs fun t ht => tac_again (h.tcs t ht)
 obtain ⟨N5, M5, a5⟩ : ∃ N M, (c.kd = 2 \/ (c.kd = 3 /\ c.tac = false)) -> ∀ s n m, N <= n -> M <= m -> ExT s m (xtext n c.vl) c.vl := by
  by_cases hv : c.kd = 2 \/ (c.kd = 3 /\ c.tac = false)
  . have := h.vl
    rw [if_pos hv] at this; obtain ⟨N, M, a⟩ := ext_more (gx_again this); exact ⟨N, M, fun _ => a⟩
  . exact ⟨0, 0, fun x => absurd x hv⟩
 refine ⟨N1 + N2 + N3 + N4 + N5, M1 + M2 + M3 + M4 + M5 + c.ps.length + c.bs.length + c.tcs.length + c.cts.length + 1, fun s n m hn hm => ?_⟩
 obtain ⟨j, rfl, hj⟩ := split1 (N := M1 + M2 + M3 + M4 + M5 + c.ps.length + c.bs.length + c.tcs.length + c.cts.length) hm; intro p hp; rw [comm_text] at hp ⊢; have hh := hp.left; have htl := hp.right
 have el : p + (headT n c ++ tailT n c).length = p + (headT n c).length + (tailT n c).length := by simp only [List.length_append]; omega
 rw [el]; have HEAD := fun hb => head_read (m := j) (n := n) (s := s) h.kd h.nm h.ps (fun b hb => ⟨(h.bs b hb).1, a2 b hb s n j (by omega) (by omega)⟩) (a1 s n j (by omega) (by omega)) (by omega) (by omega) p hh hb
 generalize hT : p + (headT n c).length = T at htl HEAD; have hk := h.kd
 by_cases hv : c.kd = 2 \/ (c.kd = 3 /\ c.tac = false)
 . -- := value
   have htac : c.tac = false := by
    cases htc : c.tac with
    | false => rfl
    | true => have := (h.tac htc).1; rcases hv with hv | hv
              . omega
              . rw [htc] at hv; exact absurd hv.2 (by simp)
   have hcts : c.cts = [] := by
    cases hl : c.cts with
    | nil => rfl
    | cons a l => have := h.some (by rw [hl]; simp); omega
   have et : tailT n c = [32, 58, 61, 32] ++ (xtext n c.vl ++ [46, 10]) := by
    unfold tailT ctsT; rw [if_neg (by rw [htac]; simp), if_pos (by omega), hcts]
    simp
   rw [et] at htl ⊢; have t1 := htl.left; have t2 := htl.right.left; have t3 := htl.right.right
   change Has s (T + 4) _ at t2
   change Has s (T + 4 + (xtext n c.vl).length) _ at t3
   obtain ⟨b0, mb, ob⟩ := be_at t1; obtain ⟨k0, kw, S1, S2, S3, bs', t', eb, ety, r1, r2, r3, r4⟩ := HEAD b0; obtain ⟨d0, d1, d2, _⟩ := dot_at t3; obtain ⟨v', ev, rv⟩ := a5 hv s n j (by omega) (by omega) _ t2 d0
   change exprN s (j + 1) _ = _ at rv
   refine ⟨⟨c.kd, (FS.on s p).t.at_, c.nm, c.ps, bs', t', v', false, [], []⟩, ?_, ?_, k0⟩
   . unfold erC
     simp [eb, ety, ev, htac, hcts, h.none htac]
   . unfold commandF
     simp only
     rw [kw, if_neg (by omega), r1]
     simp only
     rw [r2]
     simp only
     rw [r3]
     simp only
     rw [r4]
     simp only
     rw [if_pos (by rcases hv with hv | hv
                    . exact .inl hv
                    . exact .inr ⟨hv.1, ob _ (by decide)⟩), mb, rv]
     simp only
     rw [d2]; have e : T + 4 + (xtext n c.vl).length + 2 = T + ([32, 58, 61, 32] ++ (xtext n c.vl ++ [46, 10])).length := by simp only [List.length_append, List.length_cons, List.length_nil]; omega
     rw [e]
 by_cases h3 : c.kd = 3
 . -- by tactics
   have htac : c.tac = true := by
    cases htc : c.tac with
    | true => rfl
    | false => exact absurd (.inr ⟨h3, htc⟩) hv
   have hcts : c.cts = [] := by
    cases hl : c.cts with
    | nil => rfl
    | cons a l => have := h.some (by rw [hl]; simp); omega
   obtain ⟨x, l, hxl⟩ : ∃ x l, c.tcs = x :: l := by
    cases hl : c.tcs with
    | nil => exact absurd hl (h.tac htac).2
    | cons x l => exact ⟨x, l, rfl⟩
   have et : tailT n c = [32, 98, 121, 32] ++ (tacText n x ++ (tcsT n l ++ [46, 10])) := by
    unfold tailT ctsT; rw [if_pos htac, hxl, if_neg (by simp), join_tacs, hcts]
    simp
   rw [et] at htl ⊢; have t1 := htl.left; have t2 := htl.right.left; have t3 := htl.right.right
   change Has s (T + 4) _ at t2
   change Has s (T + 4 + (tacText n x).length) _ at t3
   obtain ⟨b0, yb, ys⟩ := by_at t1; obtain ⟨k0, kw, S1, S2, S3, bs', t', eb, ety, r1, r2, r3, r4⟩ := HEAD b0
   have A4 : ∀ t ∈ x :: l, TcT s (j + 1) (tacText n t) t := fun t ht => a4 t (by rw [hxl]; exact ht) s n (j + 1) (by omega) (by omega)
   have hlen : l.length <= j + 1 := by rw [hxl] at hj; simp only [List.length_cons] at hj; omega
   obtain ⟨_, _, _, b1⟩ := tactics_read l (j + 1) [] _ (fun t ht => A4 t (by simp [ht])) hlen t3; obtain ⟨x', ex, rx⟩ := A4 x (by simp) _ t2 b1
   obtain ⟨l', elt, rl, _⟩ := tactics_read l (j + 1) [x'] _ (fun t ht => A4 t (by simp [ht])) hlen t3; obtain ⟨d0, d1, d2, _⟩ := dot_at t3.right
   have hvl : c.vl = zeroX := by have := h.vl; rw [if_neg hv] at this; exact this
   refine ⟨⟨c.kd, (FS.on s p).t.at_, c.nm, c.ps, bs', t', zeroX, true, x' :: l', []⟩, ?_, ?_, k0⟩
   . unfold erC
     simp [eb, ety, hvl, htac, hcts, hxl, ex, elt]
   . unfold commandF
     simp only
     rw [kw, if_neg (by omega), r1]
     simp only
     rw [r2]
     simp only
     rw [r3]
     simp only
     rw [r4]
     simp only
     rw [if_neg (by rw [yb]; simp; omega), if_pos h3, ys, rx]
     simp only
     rw [rl]
     simp only
     rw [d2]
     have e : T + 4 + (tacText n x).length + (tcsT n l).length + 2 = T + ([32, 98, 121, 32] ++ (tacText n x ++ (tcsT n l ++ [46, 10]))).length := by simp only [List.length_append, List.length_cons, List.length_nil]; omega
     rw [e]
     simp
 have htac : c.tac = false := by
  cases htc : c.tac with
  | false => rfl
  | true => exact absurd (h.tac htc).1 h3
 have hvl : c.vl = zeroX := by have := h.vl; rw [if_neg hv] at this; exact this
 by_cases h4 : c.kd = 4
 . have et : tailT n c = ctsT n c.cts ++ [46, 10] := by
    unfold tailT; rw [if_neg (by rw [htac]; simp), if_neg (by omega)]
    simp
   rw [et] at htl ⊢; have A3 : ∀ k ∈ c.cts, LNm k.nm /\ ExT s j (xtext n k.ty) k.ty := fun k hk => ⟨(h.cts k hk).nm, a3 k hk s n j (by omega) (by omega)⟩
   obtain ⟨l', elt, rl, b0⟩ := ctors_read c.cts (j + 1) [] T A3 (by omega) htl; obtain ⟨k0, kw, S1, S2, S3, bs', t', eb, ety, r1, r2, r3, r4⟩ := HEAD b0; obtain ⟨d0, d1, d2, _⟩ := dot_at htl.right
   refine ⟨⟨c.kd, (FS.on s p).t.at_, c.nm, c.ps, bs', t', zeroX, false, [], l'⟩, ?_, ?_, k0⟩
   . unfold erC
     simp [eb, ety, hvl, htac, h.none htac, elt]
   . unfold commandF
     simp only
     rw [kw, if_neg (by omega), r1]
     simp only
     rw [r2]
     simp only
     rw [r3]
     simp only
     rw [r4]
     simp only
     rw [if_neg (by omega), if_neg h3, if_pos h4, rl]
     simp only
     rw [d2]; have e : T + (ctsT n c.cts).length + 2 = T + (ctsT n c.cts ++ [46, 10]).length := by simp only [List.length_append, List.length_cons, List.length_nil]; omega
     rw [e]
     simp
 . have hcts : c.cts = [] := by
    cases hl : c.cts with
    | nil => rfl
    | cons a l => have := h.some (by rw [hl]; simp); omega
   have et : tailT n c = [46, 10] := by
    unfold tailT ctsT; rw [if_neg (by rw [htac]; simp), if_neg (by omega), hcts]
    simp
   rw [et] at htl ⊢; obtain ⟨d0, d1, d2, _⟩ := dot_at htl; obtain ⟨k0, kw, S1, S2, S3, bs', t', eb, ety, r1, r2, r3, r4⟩ := HEAD d0
   refine ⟨⟨c.kd, (FS.on s p).t.at_, c.nm, c.ps, bs', t', zeroX, false, [], []⟩, ?_, ?_, k0⟩
   . unfold erC
     simp [eb, ety, hvl, htac, h.none htac, hcts]
   . unfold commandF
     simp only
     rw [kw, if_neg (by omega), r1]
     simp only
     rw [r2]
     simp only
     rw [r3]
     simp only
     rw [r4]
     simp only
     rw [if_neg (by omega), if_neg h3, if_neg h4, d2]
     rfl
theorem cmds_again (cs : List Cm) (h : ∀ c ∈ cs, GCm c) : ∃ N M, ∀ c ∈ cs, ∀ s n m, N <= n -> M <= m -> CmT s m (commText n c) c := list_more cs fun c hc => cmd_again (h c hc)
theorem commands_read {s : ByteArray} {n m : Nat} : ∀ (cs : List Cm) (k : Nat) (l0 : List Cm) (p : Nat), (∀ c ∈ cs, CmT s m (commText n c) c) -> cs.length <= k -> Has s p (fileText n cs) -> p + (fileText n cs).length = s.size ->
 ∃ cs', cs'.map erC = cs.map erC /\ commandsN s m k l0 (FS.on s p) = (l0 ++ cs', FS.on s s.size)
 | [], k, l0, p, _, _, _, hz => by
   have e : p = s.size := hz; subst e; refine ⟨[], rfl, ?_⟩; have kd : (FS.on s s.size).t.kd = 0 := by unfold FS.on; rw [lex_eof]
   rw [List.append_nil]
   cases k with
   | zero => rfl
   | succ k => simp only [commandsN]; rw [if_neg (fun h => h.2 kd)]
 | c :: cs, 0, _, _, _, hk, _, _ => absurd hk (by simp)
 | c :: cs, k + 1, l0, p, hc, hk, hp, hz => by
   have e0 : fileText n (c :: cs) = commText n c ++ fileText n cs := by simp [fileText]
   rw [e0] at hp hz; obtain ⟨c', ec, rc, kd⟩ := hc c (by simp) p hp.left
   obtain ⟨cs', ecs, rcs⟩ := commands_read cs k (l0 ++ [c']) _ (fun x hx => hc x (by simp [hx])) (by simp only [List.length_cons] at hk; omega) hp.right (by rw [List.length_append] at hz; omega)
   refine ⟨c' :: cs', by simp [ec, ecs], ?_⟩
   simp only [commandsN]
   rw [if_pos ⟨rfl, kd⟩, rc]
   simp only
   rw [rcs]
   simp
theorem text_again (s : ByteArray) (hs : (textF s).2.code = 0) : ∃ N, ∀ n, N <= n -> ∀ q : ByteArray, q.data.toList = fileText n (textF s).1 -> (textF q).2.code = 0 /\ (textF q).1.map erC = (textF s).1.map erC := by
 obtain ⟨N, M, h⟩ := cmds_again (textF s).1 (textF_good s hs); refine ⟨N, fun n hn q hq => ?_⟩; rw [textF_ag q (q.size + 1 + M + (textF s).1.length) (by omega)]
 have hz : (fileText n (textF s).1).length = q.size := by rw [<- hq, Array.length_toList]; rfl
 have hp : Has q 0 (fileText n (textF s).1) := by
  have hl : q.data.toList.length = q.size := by rw [Array.length_toList]; rfl
  rw [<- hq]; refine ⟨by omega, fun i hi => ?_⟩; rw [Nat.zero_add]; exact at_data q i (by omega)
 obtain ⟨cs', e1, e2⟩ := commands_read (s := q) (n := n) (m := q.size + 1 + M + (textF s).1.length) (textF s).1 (q.size + 1 + M + (textF s).1.length) [] 0 (fun c hc => h c hc q n _ hn (by omega)) (by omega) hp (by omega)
 have e3 : FS.step q ⟨⟨0, ⟨#[]⟩, 0⟩, 0, 0, 0⟩ = FS.on q 0 := rfl; rw [e3, e2]; exact ⟨rfl, by rw [List.nil_append]; exact e1⟩
theorem tac_er (n : Nat) (t : Tc) : tacText n (erT t) = tacText n t := by
 unfold tacText erT
 simp only [List.flatMap_map, er_text]
theorem comm_er (n : Nat) (c : Cm) : commText n (erC c) = commText n c := by
 unfold commText erC; have e : (tacText n ∘ erT) = tacText n := funext fun t => tac_er n t
 simp only [List.flatMap_map, er_text, erB, erK, List.map_map, e, List.isEmpty_map]
theorem file_er (n : Nat) (cs : List Cm) : fileText n (cs.map erC) = fileText n cs := by
 unfold fileText; rw [List.flatMap_map]
 simp only [comm_er]
theorem text_again_same (s : ByteArray) (hs : (textF s).2.code = 0) : ∃ N, ∀ n, N <= n -> ∀ q : ByteArray, q.data.toList = fileText n (textF s).1 -> (textF q).2.code = 0 /\ ∀ k, fileText k (textF q).1 = fileText k (textF s).1 := by
 obtain ⟨N, h⟩ := text_again s hs; refine ⟨N, fun n hn q hq => ?_⟩; obtain ⟨h1, h2⟩ := h n hn q hq; exact ⟨h1, fun k => by rw [<- file_er k (textF q).1, h2, file_er]⟩
theorem flat_same {α β : Type} {f g : α -> List β} {l : List α} (h : ∀ x ∈ l, f x = g x) : l.flatMap f = l.flatMap g := by
 rw [List.flatMap_def, List.flatMap_def, List.map_congr_left h]
theorem gtc_xs {t : Tc} (h : GTc t) : ∀ e ∈ t.xs, GX e := by
 cases h with
 | both a q e hq he => intro x hx; rw [List.mem_singleton.1 hx]; exact he
 | ex k a e hk he => intro x hx; rw [List.mem_singleton.1 hx]; exact he
 | _ => intro x hx; simp at hx
end Go.Proofs.YtockffblncdikaaGreatDoor
