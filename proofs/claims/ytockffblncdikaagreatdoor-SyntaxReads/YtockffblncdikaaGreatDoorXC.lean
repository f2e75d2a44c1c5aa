/- A printed expression is read again: atoms, equations, arrows. No walk. -/
import Derived.Test.YtockffblncdikaaGreatDoorLxB
namespace Go.Proofs.YtockffblncdikaaGreatDoor
open Go.RowKit
set_option maxRecDepth 100000
set_option maxHeartbeats 16000000
abbrev numB (k : Nat) : ByteArray := ⟨(Lib.decDigits k).toArray⟩
def numOk (k : Nat) : Bool := decide (0 < (numB k).size) && decide ((numB k).size <= 2) && decide (runTo digitB (numB k) 0 = (numB k).size) && (decide ((numB k).size ≠ 2) || decide (at_ (numB k) 0 ≠ 48)) && decide (decV (numB k) = k)
theorem num_ok : ∀ k, k < 100 -> numOk k = true := by decide +kernel
theorem lex_dec {s : ByteArray} {p k : Nat} (hk : k < 100) (h : Has s p (Lib.decDigits k)) (he : p + (Lib.decDigits k).length < s.size -> digitB (at_ s (p + (Lib.decDigits k).length)) = false) : lex s p = (⟨2, numB k, p⟩, p + (Lib.decDigits k).length) := by
 have h1 := num_ok k hk
 simp only [numOk, Bool.and_eq_true, Bool.or_eq_true, decide_eq_true_eq] at h1
 obtain ⟨⟨⟨⟨h2, h3⟩, h4⟩, h5⟩, _⟩ := h1; have e : (numB k).size = (Lib.decDigits k).length := by show (Lib.decDigits k).toArray.size = _; simp
 have h' : Has s p (numB k).data.toList := by simpa using h
 rw [lex_num h' (by rw [e]; exact he) h2 h3 h4 (fun x => h5.resolve_left (fun y => y x)), e]
theorem dec_num {k : Nat} (hk : k < 100) : decV (numB k) = k := by
 have h1 := num_ok k hk
 simp only [numOk, Bool.and_eq_true, Bool.or_eq_true, decide_eq_true_eq] at h1
 exact h1.2
def GoodAt : LvB -> Nat -> Prop
 | .succ a, k => GoodAt a (k + 1)
 | .zero, k => k < 100
 | .param q, k => k < 100 /\ LNm q
 | .max a b, k => k < 100 /\ GoodAt a 0 /\ GoodAt b 0
 | .imax a b, k => k < 100 /\ GoodAt a 0 /\ GoodAt b 0
def latGo (x : List UInt8 × Bool) : List UInt8 := if x.2 = true then x.1 else inBr x.1
theorem on_is_no {s q : ByteArray} {p : Nat} (h : (lex s p).1.kd ≠ 3) : (FS.on s p).is q = false := by
 rw [FS.on_is]
 simp [h]
theorem on_is_no' {s q : ByteArray} {p : Nat} (h : (lex s p).1.t ≠ q) : (FS.on s p).is q = false := by
 rw [FS.on_is]
 simp [h]
theorem on_is {s q : ByteArray} {p e a : Nat} (h : lex s p = (⟨3, q, a⟩, e)) : (FS.on s p).is q = true := by
 rw [FS.on_is, h]
 simp
theorem on_step {s : ByteArray} {p e : Nat} {t : LTok} (h : lex s p = (t, e)) : (FS.on s p).step s = FS.on s e := by rw [FS.on_step, h]
theorem on_kin {s : ByteArray} {p e : Nat} {t : LTok} (h : lex s p = (t, e)) (k : Nat) : (FS.on s p).kin k = (t.kd == k) := by rw [FS.on_kin, h]
theorem on_blank {s : ByteArray} {p : Nat} (h : Has s p [32]) : FS.on s p = FS.on s (p + 1) := by
 obtain ⟨hl, hc, _⟩ := h.head; unfold FS.on; rw [lex_blank hl (by rw [hc]; rfl)]
theorem pz_plus_stop {s : ByteArray} {st : FS} (h : st.is sPlus = false) (m : Nat) (l : LvB) : plusN s m l st = (l, st) := by
 cases m with
 | zero => rfl
 | succ m => simp only [plusN]; rw [if_neg (by rw [h]; simp)]
theorem raised_on {s : ByteArray} {p e k a : Nat} {l : LvB} (h : lex s p = (⟨2, numB k, a⟩, e)) (hk : k < 100) (hc : chain l + k < 100) : raised s l (FS.on s p) = (succN k l, FS.on s e) := by
 unfold raised; rw [if_pos (by rw [on_kin h]; rfl)]; have e1 : (FS.on s p).t.t = numB k := by unfold FS.on; rw [h]
 rw [e1, dec_num hk, if_neg (by omega), on_step h]
theorem ends_of {s : ByteArray} {p : Nat} {c : UInt8} (h : Has s p [c]) (h1 : partB c.toNat = false) (h2 : c.toNat ≠ 46) : Ends s p := by
 obtain ⟨hl, hc, _⟩ := h.head; exact ⟨fun _ => by rw [hc]; exact h1, fun x => h2 (by rw [<- hc]; exact x.2.1)⟩
theorem Ends.dig {s : ByteArray} {p : Nat} (h : Ends s p) (hl : p < s.size) : digitB (at_ s p) = false := by
 have := h.1 hl
 simp only [partB, Bool.or_eq_false_iff] at this
 exact this.1.1.2
theorem LNm.toks {s q : ByteArray} {p : Nat} (hq : LNm q) (h : Has s p q.data.toList) (he : Ends s (p + q.data.toList.length)) : lex s p = (⟨1, q, p⟩, p + q.data.toList.length) := by
 have e : q.data.toList.length = q.size := by rw [Array.length_toList]; rfl
 rw [e] at he ⊢; exact lex_name h he hq
theorem lex_sign {s : ByteArray} {p : Nat} {c : UInt8} (h : Has s p [c]) (h1 : oneB c.toNat = true) (h2 : ∀ d, twoB c.toNat d = false) : lex s p = (⟨3, ⟨#[c]⟩, p⟩, p + 1) := lex_one h h1 (by rw [h2]; simp)
theorem lex_plus {s : ByteArray} {p : Nat} (h : Has s p [43]) : lex s p = (⟨3, sPlus, p⟩, p + 1) := lex_sign h rfl (fun _ => rfl)
theorem lex_open {s : ByteArray} {p : Nat} (h : Has s p [40]) : lex s p = (⟨3, sOpen, p⟩, p + 1) := lex_sign h rfl (fun _ => rfl)
theorem lex_shut {s : ByteArray} {p : Nat} (h : Has s p [41]) : lex s p = (⟨3, sShut, p⟩, p + 1) := lex_sign h rfl (fun _ => rfl)
theorem must_on {s q : ByteArray} {p e a : Nat} (h : lex s p = (⟨3, q, a⟩, e)) : (FS.on s p).must s q = FS.on s e := by
 unfold FS.must; rw [if_pos (on_is h), on_step h]
theorem lat_br {s : ByteArray} {n p : Nat} {t : List UInt8} {l : LvB} (h : Has s p (inBr t)) (hA : Has s (p + 1) t -> Ends s (p + 1 + t.length) -> (FS.on s (p + 1 + t.length)).is sPlus = false -> levelN s n (FS.on s (p + 1)) = (l, FS.on s (p + 1 + t.length))) :
 latomF s (levelN s n) (FS.on s p) = (l, FS.on s (p + (inBr t).length)) := by
 have h1 : Has s p [40] := h.left.left; have h2 : Has s (p + 1) t := h.left.right
 have h3 : Has s (p + 1 + t.length) [41] := by
  have := h.right; have e : ([40] ++ t).length = 1 + t.length := by simp; omega
  rw [e, <- Nat.add_assoc] at this; exact this
 have ho := lex_open h1; have hs := lex_shut h3; have hr := hA h2 (ends_of h3 rfl (by decide)) (on_is_no' (by rw [hs]; show sShut ≠ sPlus; decide)); unfold latomF
 rw [if_neg (by rw [on_kin ho]; simp), if_neg (by rw [on_kin ho]; simp), if_pos (on_is ho), on_step ho, hr]
 simp only
 rw [must_on hs]; have e : p + 1 + t.length + 1 = p + (inBr t).length := by unfold inBr; simp; omega
 rw [e]
def need (l : LvB) (k : Nat) : Nat := 2 * l.nodes + (if k = 0 then 0 else 1)
theorem word_lex {s q : ByteArray} {p : Nat} (h : Has s p (q.data.toList ++ [32])) (h0 : 0 < q.size) (h1 : q.size <= 40) (hf : alphaB (at_ q 0) = true) (hn : lnameEnd q 0 = q.size) (hi : isWord q = true) : lex s p = (⟨3, q, p⟩, p + q.size) := by
 have e : q.data.toList.length = q.size := by rw [Array.length_toList]; rfl
 have h2 := h.right; rw [e] at h2; rw [lex_alpha h.left (ends_of h2 rfl (by decide)) h0 h1 hf hn, if_pos hi]
theorem lex_max {s : ByteArray} {p : Nat} (h : Has s p [109, 97, 120, 32]) : lex s p = (⟨3, wMax, p⟩, p + 3) := word_lex (q := wMax) h (by decide) (by decide) (by decide) (by decide) (by decide)
theorem lex_imax {s : ByteArray} {p : Nat} (h : Has s p [105, 109, 97, 120, 32]) : lex s p = (⟨3, wImax, p⟩, p + 4) := word_lex (q := wImax) h (by decide) (by decide) (by decide) (by decide) (by decide)
theorem two_read {s : ByteArray} {L : FS -> LvB × FS} {p : Nat} {ta tb : List UInt8} {a b : LvB} (h : Has s p ([32] ++ ta ++ [32] ++ tb))
 (hA : Has s (p + 1) ta -> Ends s (p + 1 + ta.length) -> latomF s L (FS.on s (p + 1)) = (a, FS.on s (p + 1 + ta.length)))
 (hB : Has s (p + 1 + ta.length + 1) tb -> latomF s L (FS.on s (p + 1 + ta.length + 1)) = (b, FS.on s (p + 1 + ta.length + 1 + tb.length))) :
 twoF s L (FS.on s p) = (a, b, FS.on s (p + ([32] ++ ta ++ [32] ++ tb).length)) := by
 have h1 : Has s p [32] := h.left.left.left; have h2 : Has s (p + 1) ta := h.left.left.right
 have h3 : Has s (p + 1 + ta.length) [32] := by
  have := h.left.right; have e : ([32] ++ ta).length = 1 + ta.length := by simp; omega
  rw [e, <- Nat.add_assoc] at this; exact this
 have h4 : Has s (p + 1 + ta.length + 1) tb := by
  have := h.right; have e : ([32] ++ ta ++ [32]).length = 1 + ta.length + 1 := by simp; omega
  rw [e, <- Nat.add_assoc, <- Nat.add_assoc] at this; exact this
 have r1 := hA h2 (ends_of h3 rfl (by decide)); have r2 := hB h4; unfold twoF; rw [on_blank h1, r1]
 simp only
 rw [on_blank h3, r2]; have e : p + 1 + ta.length + 1 + tb.length = p + ([32] ++ ta ++ [32] ++ tb).length := by simp; omega
 rw [e]
theorem plus_read {s : ByteArray} {p k m : Nat} {l : LvB} (h : Has s p ([43] ++ Lib.decDigits k)) (hk : k < 100) (hc : chain l = 0) (hE : Ends s (p + ([43] ++ Lib.decDigits k).length)) (hP : (FS.on s (p + ([43] ++ Lib.decDigits k).length)).is sPlus = false) :
 plusN s (m + 1) l (FS.on s p) = (succN k l, FS.on s (p + ([43] ++ Lib.decDigits k).length)) := by
 have h1 : Has s p [43] := h.left; have h2 : Has s (p + 1) (Lib.decDigits k) := h.right; have e : p + ([43] ++ Lib.decDigits k).length = p + 1 + (Lib.decDigits k).length := by simp; omega
 rw [e] at hE hP ⊢; have hp := lex_plus h1; have hd := lex_dec hk h2 (fun x => hE.dig x)
 simp only [plusN]
 rw [if_pos (on_is hp), on_step hp, raised_on hd hk (by omega)]; exact pz_plus_stop hP _ _
theorem lat_atom {s : ByteArray} {L : FS -> LvB × FS} : ∀ (l : LvB) (k p : Nat), (lvGo l k).2 = true -> GoodAt l k -> Has s p (lvGo l k).1 -> Ends s (p + (lvGo l k).1.length) -> latomF s L (FS.on s p) = (succN k l, FS.on s (p + (lvGo l k).1.length))
 | .succ a, k, p, hf, hg, h, he => lat_atom a (k + 1) p hf hg h he
 | .zero, k, p, _, hg, h, he => by
   have hd := lex_dec (k := k) hg h (fun x => he.dig x); unfold latomF; rw [if_pos (by rw [on_kin hd]; rfl), raised_on hd hg (by show 0 + k < 100; rw [Nat.zero_add]; exact hg)]
   rfl
 | .param q, k, p, hf, hg, h, he => by
   by_cases hk : k = 0
   . subst hk
     have hx : (lvGo (.param q) 0) = (q.data.toList, true) := by simp [lvGo]
     rw [hx] at h he ⊢; have hn := hg.2.toks h he; unfold latomF; rw [if_neg (by rw [on_kin hn]; simp), if_pos (by rw [on_kin hn]; rfl)]; unfold FS.name; rw [if_pos (by rw [on_kin hn]; rfl), on_step hn]
     have e1 : (FS.on s p).t.t = q := by unfold FS.on; rw [hn]
     rw [e1]
     rfl
   . simp [lvGo, hk] at hf
 | .max a b, k, p, hf, _, _, _ => by
   exfalso
   simp only [lvGo] at hf
   split at hf <;> simp at hf
 | .imax a b, k, p, hf, _, _, _ => by
   exfalso
   simp only [lvGo] at hf
   split at hf <;> simp at hf
theorem lat_read {s : ByteArray} {n : Nat} {l : LvB} {k : Nat} (hg : GoodAt l k) (hA : ∀ p, Has s p (lvGo l k).1 -> Ends s (p + (lvGo l k).1.length) -> (FS.on s (p + (lvGo l k).1.length)).is sPlus = false -> levelN s n (FS.on s p) = (succN k l, FS.on s (p + (lvGo l k).1.length)))
 {p : Nat} (h : Has s p (latGo (lvGo l k))) (he : Ends s (p + (latGo (lvGo l k)).length)) : latomF s (levelN s n) (FS.on s p) = (succN k l, FS.on s (p + (latGo (lvGo l k)).length)) := by
 unfold latGo at h he ⊢
 cases hf : (lvGo l k).2 with
 | true =>
   simp only [hf, if_true] at h he ⊢
   exact lat_atom l k p hf hg h he
 | false =>
   simp only [hf] at h ⊢
   exact lat_br h (hA (p + 1))
theorem lvl_word {s : ByteArray} {n p : Nat} (m : Nat) (h : (lex s p).1.kd ≠ 3) : levelF s (levelN s n) m (FS.on s p) = plusN s m (latomF s (levelN s n) (FS.on s p)).1 (latomF s (levelN s n) (FS.on s p)).2 := by
 unfold levelF; rw [if_neg (by rw [on_is_no h]; simp), if_neg (by rw [on_is_no h]; simp)]
theorem lvl_atom {s : ByteArray} {n p : Nat} (m : Nat) (h1 : (lex s p).1.t ≠ wMax) (h2 : (lex s p).1.t ≠ wImax) : levelF s (levelN s n) m (FS.on s p) = plusN s m (latomF s (levelN s n) (FS.on s p)).1 (latomF s (levelN s n) (FS.on s p)).2 := by
 unfold levelF; rw [if_neg (by rw [on_is_no' h1]; simp), if_neg (by rw [on_is_no' h2]; simp)]
def Rd (s : ByteArray) (l : LvB) (k n : Nat) : Prop := ∀ p, Has s p (lvGo l k).1 -> Ends s (p + (lvGo l k).1.length) -> (FS.on s (p + (lvGo l k).1.length)).is sPlus = false -> levelN s n (FS.on s p) = (succN k l, FS.on s (p + (lvGo l k).1.length))
theorem zero_read {s : ByteArray} {k n : Nat} (hg : k < 100) : Rd s .zero k (n + 1) := fun p h he hp => by
 have hd := lex_dec (k := k) hg h (fun x => he.dig x); show levelF s (levelN s n) (n + 1) (FS.on s p) = _; rw [lvl_word _ (by rw [hd]; simp), lat_atom .zero k p rfl hg h he]; exact pz_plus_stop hp _ _
theorem param_read {s q : ByteArray} {k n : Nat} (hg : GoodAt (.param q) k) : Rd s (.param q) k (n + 1) := fun p h he hp => by
 show levelF s (levelN s n) (n + 1) (FS.on s p) = _
 by_cases hk : k = 0
 . subst hk
   have hx : (lvGo (.param q) 0) = (q.data.toList, true) := by simp [lvGo]
   have ha := lat_atom (s := s) (L := levelN s n) (.param q) 0 p (by rw [hx]) hg h he; have hn : lex s p = (⟨1, q, p⟩, p + q.data.toList.length) := hg.2.toks (by rw [hx] at h; exact h) (by rw [hx] at he; exact he)
   rw [lvl_word _ (by rw [hn]; simp), ha]; exact pz_plus_stop hp _ _
 . have hx : (lvGo (.param q) k).1 = q.data.toList ++ ([43] ++ Lib.decDigits k) := by simp [lvGo, hk]
   rw [hx] at h he hp ⊢; have h1 := h.left; have h2 := h.right
   have e : p + (q.data.toList ++ ([43] ++ Lib.decDigits k)).length = p + q.data.toList.length + ([43] ++ Lib.decDigits k).length := by simp only [List.length_append]; omega
   rw [e] at he hp ⊢; have hx0 : (lvGo (.param q) 0) = (q.data.toList, true) := by simp [lvGo]
   have hE : Ends s (p + q.data.toList.length) := ends_of h2.left rfl (by decide); have hn : lex s p = (⟨1, q, p⟩, p + q.data.toList.length) := hg.2.toks h1 hE
   have ha := lat_atom (s := s) (L := levelN s n) (.param q) 0 p (by rw [hx0]) ⟨by decide, hg.2⟩ (by rw [hx0]; exact h1) (by rw [hx0]; exact hE); rw [hx0] at ha; rw [lvl_word _ (by rw [hn]; simp), ha]
   exact plus_read h2 hg.1 rfl he hp
theorem max_read {s : ByteArray} {a b : LvB} {n : Nat} (ga : GoodAt a 0) (gb : GoodAt b 0) (ha : Rd s a 0 n) (hb : Rd s b 0 n) : Rd s (.max a b) 0 (n + 1) := fun p h he hp => by
 have hx : (lvGo (.max a b) 0).1 = [109, 97, 120] ++ ([32] ++ latGo (lvGo a 0) ++ [32] ++ latGo (lvGo b 0)) := by simp [lvGo, latGo]
 rw [hx] at h he hp ⊢
 have h4 : Has s p [109, 97, 120, 32] := by
  have e : [109, 97, 120] ++ ([32] ++ latGo (lvGo a 0) ++ [32] ++ latGo (lvGo b 0)) = [109, 97, 120, 32] ++ (latGo (lvGo a 0) ++ [32] ++ latGo (lvGo b 0)) := by simp
  rw [e] at h; exact h.left
 have hm := lex_max h4; have h2 := h.right
 have e : p + ([109, 97, 120] ++ ([32] ++ latGo (lvGo a 0) ++ [32] ++ latGo (lvGo b 0))).length = p + 3 + ([32] ++ latGo (lvGo a 0) ++ [32] ++ latGo (lvGo b 0)).length := by simp; omega
 rw [e] at he hp ⊢; have e2 : p + 3 + 1 + (latGo (lvGo a 0)).length + 1 + (latGo (lvGo b 0)).length = p + 3 + ([32] ++ latGo (lvGo a 0) ++ [32] ++ latGo (lvGo b 0)).length := by simp; omega
 have r := two_read (s := s) (L := levelN s n) (p := p + 3) (a := a) (b := b) h2 (fun x y => lat_read ga ha x y) (fun x => lat_read gb hb x (by rw [e2]; exact he)); show levelF s (levelN s n) (n + 1) (FS.on s p) = _
 unfold levelF; rw [if_pos (on_is hm), on_step hm, r]
 rfl
theorem imax_read {s : ByteArray} {a b : LvB} {n : Nat} (ga : GoodAt a 0) (gb : GoodAt b 0) (ha : Rd s a 0 n) (hb : Rd s b 0 n) : Rd s (.imax a b) 0 (n + 1) := fun p h he hp => by
 have hx : (lvGo (.imax a b) 0).1 = [105, 109, 97, 120] ++ ([32] ++ latGo (lvGo a 0) ++ [32] ++ latGo (lvGo b 0)) := by simp [lvGo, latGo]
 rw [hx] at h he hp ⊢
 have h4 : Has s p [105, 109, 97, 120, 32] := by
  have e : [105, 109, 97, 120] ++ ([32] ++ latGo (lvGo a 0) ++ [32] ++ latGo (lvGo b 0)) = [105, 109, 97, 120, 32] ++ (latGo (lvGo a 0) ++ [32] ++ latGo (lvGo b 0)) := by simp
  rw [e] at h; exact h.left
 have hm := lex_imax h4; have h2 := h.right
 have e : p + ([105, 109, 97, 120] ++ ([32] ++ latGo (lvGo a 0) ++ [32] ++ latGo (lvGo b 0))).length = p + 4 + ([32] ++ latGo (lvGo a 0) ++ [32] ++ latGo (lvGo b 0)).length := by simp; omega
 rw [e] at he hp ⊢; have e2 : p + 4 + 1 + (latGo (lvGo a 0)).length + 1 + (latGo (lvGo b 0)).length = p + 4 + ([32] ++ latGo (lvGo a 0) ++ [32] ++ latGo (lvGo b 0)).length := by simp; omega
 have r := two_read (s := s) (L := levelN s n) (p := p + 4) (a := a) (b := b) h2 (fun x y => lat_read ga ha x y) (fun x => lat_read gb hb x (by rw [e2]; exact he)); show levelF s (levelN s n) (n + 1) (FS.on s p) = _
 unfold levelF; rw [if_neg (by rw [on_is_no' (by rw [hm]; show wImax ≠ wMax; decide)]; simp), if_pos (on_is hm), on_step hm, r]
 rfl
theorem more_read {s : ByteArray} {l : LvB} {k n : Nat} (_hk : k ≠ 0) (h100 : k < 100) (hx : (lvGo l k).1 = inBr (lvGo l 0).1 ++ ([43] ++ Lib.decDigits k)) (hc : chain l = 0) (h0 : Rd s l 0 n) : Rd s l k (n + 1) := fun p h he hp => by
 rw [hx] at h he hp ⊢; have h1 := h.left; have h2 := h.right
 have e : p + (inBr (lvGo l 0).1 ++ ([43] ++ Lib.decDigits k)).length = p + (inBr (lvGo l 0).1).length + ([43] ++ Lib.decDigits k).length := by simp only [List.length_append]; omega
 rw [e] at he hp ⊢; have ho := lex_open h1.left.left; show levelF s (levelN s n) (n + 1) (FS.on s p) = _
 rw [lvl_atom _ (by rw [ho]; show sOpen ≠ wMax; decide) (by rw [ho]; show sOpen ≠ wImax; decide), lat_br (l := l) h1 (h0 (p + 1))]; exact plus_read h2 h100 hc he hp
theorem lv_read (s : ByteArray) : ∀ (l : LvB) (k n : Nat), GoodAt l k -> need l k < n -> Rd s l k n
 | .succ a, k, n, hg, hn => lv_read s a (k + 1) n hg (by simp only [need, Lv.nodes] at hn ⊢; split at hn <;> simp <;> omega)
 | .zero, k, n, hg, hn => by
   obtain ⟨m, rfl⟩ : ∃ m, n = m + 1 := ⟨n - 1, by omega⟩; exact zero_read hg
 | .param q, k, n, hg, hn => by
   obtain ⟨m, rfl⟩ : ∃ m, n = m + 1 := ⟨n - 1, by omega⟩; exact param_read hg
 | .max a b, k, n, hg, hn => by
   have h0 : ∀ m, 2 * (Lv.max a b).nodes < m -> Rd s (.max a b) 0 m := fun m hm => by
    obtain ⟨j, rfl⟩ : ∃ j, m = j + 1 := ⟨m - 1, by omega⟩
    simp only [Lv.nodes] at hm
    exact max_read hg.2.1 hg.2.2 (lv_read s a 0 j hg.2.1 (by simp [need]; omega)) (lv_read s b 0 j hg.2.2 (by simp [need]; omega))
   by_cases hk : k = 0
   . subst hk
     exact h0 n (by simpa [need] using hn)
   . obtain ⟨m, rfl⟩ : ∃ m, n = m + 1 := ⟨n - 1, by omega⟩
     exact more_read hk hg.1 (by simp [lvGo, hk]) rfl (h0 m (by simp only [need, if_neg hk] at hn; omega))
 | .imax a b, k, n, hg, hn => by
   have h0 : ∀ m, 2 * (Lv.imax a b).nodes < m -> Rd s (.imax a b) 0 m := fun m hm => by
    obtain ⟨j, rfl⟩ : ∃ j, m = j + 1 := ⟨m - 1, by omega⟩
    simp only [Lv.nodes] at hm
    exact imax_read hg.2.1 hg.2.2 (lv_read s a 0 j hg.2.1 (by simp [need]; omega)) (lv_read s b 0 j hg.2.2 (by simp [need]; omega))
   by_cases hk : k = 0
   . subst hk
     exact h0 n (by simpa [need] using hn)
   . obtain ⟨m, rfl⟩ : ∃ m, n = m + 1 := ⟨n - 1, by omega⟩
     exact more_read hk hg.1 (by simp [lvGo, hk]) rfl (h0 m (by simp only [need, if_neg hk] at hn; omega))
def er : Ex -> Ex
 | .node k _ q a b c d ls xs => .node k 0 q a b c d ls (xs.map er)
theorem er_node (k a : Nat) (q : ByteArray) (b1 b2 b3 b4 : Bool) (ls : List LvB) (xs : List Ex) : er (.node k a q b1 b2 b3 b4 ls xs) = .node k 0 q b1 b2 b3 b4 ls (xs.map er) := by rw [er]
theorem er_kd (e : Ex) : (er e).kd = e.kd := by cases e; rw [er_node]; rfl
theorem er_nm (e : Ex) : (er e).nm = e.nm := by cases e; rw [er_node]; rfl
theorem er_ex (e : Ex) : (er e).ex = e.ex := by cases e; rw [er_node]; rfl
theorem er_gi (e : Ex) : (er e).gi = e.gi := by cases e; rw [er_node]; rfl
theorem er_inf (e : Ex) : (er e).inf = e.inf := by cases e; rw [er_node]; rfl
theorem er_im (e : Ex) : (er e).im = e.im := by cases e; rw [er_node]; rfl
theorem er_ls (e : Ex) : (er e).ls = e.ls := by cases e; rw [er_node]; rfl
theorem er_xs (e : Ex) : (er e).xs = e.xs.map er := by cases e; rw [er_node]; rfl
theorem er_zero : er zeroX = zeroX := by rw [er_node]; rfl
theorem er_at (l : List Ex) (i : Nat) : (l.map er).getD i zeroX = er (l.getD i zeroX) := by
 rw [List.getD_eq_getElem?_getD, List.getD_eq_getElem?_getD, List.getElem?_map]
 cases l[i]? with
 | none => simp [er_zero]
 | some x => rfl
theorem er_x0 (e : Ex) : (er e).x0 = er e.x0 := by unfold Ex.x0; rw [er_xs, er_at]
theorem er_x1 (e : Ex) : (er e).x1 = er e.x1 := by unfold Ex.x1; rw [er_xs, er_at]
theorem er_x2 (e : Ex) : (er e).x2 = er e.x2 := by unfold Ex.x2; rw [er_xs, er_at]
theorem er_isEq (e : Ex) : isEq (er e) = isEq e := by unfold isEq; rw [er_x0, er_x0, er_kd, er_kd, er_kd, er_inf]
theorem er_tight (e : Ex) : tight (er e) = tight e := by unfold tight; rw [er_isEq, er_kd, er_nm]
theorem er_name (e : Ex) : nameText (er e) = nameText e := by unfold nameText; rw [er_ex, er_nm, er_gi, er_ls]
theorem er_text : ∀ (n : Nat) (e : Ex), xtext n (er e) = xtext n e
 | 0, _ => rfl
 | n + 1, e => by
   simp only [xtext, er_isEq, er_kd, er_nm, er_im, er_ls, er_name, er_x0, er_x1, er_x2, er_tight, er_text n]
inductive GX : Ex -> Prop
 | name (a : Nat) (q : ByteArray) (ex : Bool) : LNm q -> GX (.node 1 a q ex false false false [] [])
 | given (a : Nat) (q : ByteArray) (ex : Bool) (l : LvB) (ls : List LvB) : LNm q -> (∀ x ∈ l :: ls, GoodAt x 0) -> GX (.node 1 a q ex true false false (l :: ls) [])
 | hole (a : Nat) : GX (holeX a)
 | sort (a : Nat) (l : LvB) : GoodAt l 0 -> GX (sortX a l)
 | app (a : Nat) (f x : Ex) : GX f -> GX x -> GX (appX a f x)
 | eq (a b c : Nat) (x y : Ex) : GX x -> GX y -> GX (appX a (appX b (.node 1 c wEq false false true false [] []) x) y)
 | func (a : Nat) (q : ByteArray) (im : Bool) (t e : Ex) : LNm q -> GX t -> GX e -> GX (.node 5 a q false false false im [] [t, e])
 | all (a : Nat) (q : ByteArray) (im : Bool) (t e : Ex) : LNm q -> GX t -> GX e -> GX (.node 6 a q false false false im [] [t, e])
 | arrow (a : Nat) (t e : Ex) : GX t -> GX e -> GX (.node 6 a ⟨#[]⟩ false false false false [] [t, e])
 | lets (a : Nat) (q : ByteArray) (t v b : Ex) : LNm q -> GX t -> GX v -> GX b -> GX (.node 7 a q false false false false [] [t, v, b])
 | is (a : Nat) (e t : Ex) : GX e -> GX t -> GX (.node 8 a ⟨#[]⟩ false false false false [] [e, t])
theorem GX.inf {e : Ex} (h : GX e) : e.inf = false := by cases h <;> rfl
theorem GX.app_eq {a : Nat} {f x : Ex} (hf : GX f) : isEq (appX a f x) = false := by
 cases hf with
 | app b g y hg hy =>
   have := hg.inf; show (true && true && (g.kd == 1) && g.inf) = false; rw [this]
   simp
 | eq b c d y z hy hz => rfl
 | _ => rfl
structure Bd4 (s : ByteArray) (p : Nat) : Prop where
 ends : Ends s p
 num : (FS.on s p).kin 2 = false
 lev : (FS.on s p).is sLevels = false
structure Bd3 (s : ByteArray) (p : Nat) : Prop where
 b4 : Bd4 s p
 beg : begins (FS.on s p) = false
structure Bd2 (s : ByteArray) (p : Nat) : Prop where
 b3 : Bd3 s p
 eq : (FS.on s p).is sEq = false
structure Bd0 (s : ByteArray) (p : Nat) : Prop where
 b2 : Bd2 s p
 arrow : (FS.on s p).is sArrow = false
structure Fst (s : ByteArray) (p : Nat) : Prop where
 f : (FS.on s p).is wFun = false
 a : (FS.on s p).is wForall = false
 l : (FS.on s p).is wLet = false
section
variable (s : ByteArray) (m : Nat) (t : List UInt8) (e : Ex)
def AtomT : Prop := ∀ p, Has s p t -> Bd4 s (p + t.length) -> begins (FS.on s p) = true /\ Fst s p /\ ∃ e', er e' = er e /\ atomF s m (exprN s m) (FS.on s p) = (e', FS.on s (p + t.length))
def AppT (c : Nat) : Prop := ∀ p, Has s p t -> Bd4 s (p + t.length) -> begins (FS.on s p) = true /\ Fst s p /\ ∃ e' j, er e' = er e /\ j + c = m /\ applyF s m (exprN s m) (FS.on s p) = applyN s m (exprN s m) j e' (FS.on s (p + t.length))
def EqT : Prop := ∀ p, Has s p t -> Bd2 s (p + t.length) -> Fst s p /\ ∃ e', er e' = er e /\ equalF s m (exprN s m) (FS.on s p) = (e', FS.on s (p + t.length))
def ExT : Prop := ∀ p, Has s p t -> Bd0 s (p + t.length) -> ∃ e', er e' = er e /\ exprN s (m + 1) (FS.on s p) = (e', FS.on s (p + t.length))
end
section
variable {s : ByteArray} {m : Nat} {t : List UInt8} {e : Ex}
theorem AtomT.app (h : AtomT s m t e) : AppT s m t e 0 := fun p hp hb => by
 obtain ⟨h1, h2, e', he, hr⟩ := h p hp hb; exact ⟨h1, h2, e', m, he, rfl, by unfold applyF; rw [hr]⟩
theorem pz_apply_stop {st : FS} (h : begins st = false) (E : FS -> Ex × FS) (n j : Nat) (x : Ex) : applyN s n E j x st = (x, st) := by
 cases j with
 | zero => rfl
 | succ j => simp only [applyN]; rw [if_neg (by rw [h]; simp)]
theorem AppT.done {c : Nat} (h : AppT s m t e c) {p : Nat} (hp : Has s p t) (hb : Bd3 s (p + t.length)) : Fst s p /\ ∃ e', er e' = er e /\ applyF s m (exprN s m) (FS.on s p) = (e', FS.on s (p + t.length)) := by
 obtain ⟨_, h2, e', j, he, _, hr⟩ := h p hp hb.b4; exact ⟨h2, e', he, by rw [hr, pz_apply_stop hb.beg]⟩
theorem AppT.eq {c : Nat} (h : AppT s m t e c) : EqT s m t e := fun p hp hb => by
 obtain ⟨h2, e', he, hr⟩ := h.done hp hb.b3; refine ⟨h2, e', he, ?_⟩; unfold equalF
 simp only
 rw [hr]
 simp only
 rw [if_neg (by rw [hb.eq]; simp)]
theorem EqT.ex (h : EqT s m t e) : ExT s m t e := fun p hp hb => by
 obtain ⟨h2, e', he, hr⟩ := h p hp hb.b2; refine ⟨e', he, ?_⟩; show exprF s m (exprN s m) (FS.on s p) = _; unfold exprF
 simp only
 rw [if_neg (by rw [h2.f]; simp), if_neg (by rw [h2.a]; simp), if_neg (by rw [h2.l]; simp), hr]
 simp only
 rw [if_neg (by rw [hb.arrow]; simp)]
theorem sign_bd {p a b : Nat} {q : ByteArray} {c : UInt8} (h : Has s p [c]) (hx : lex s p = (⟨3, q, a⟩, b)) (h1 : partB c.toNat = false) (h2 : c.toNat ≠ 46) (n1 : q ≠ sLevels) (n2 : q ≠ sAt) (n3 : q ≠ sHole) (n4 : q ≠ wProp) (n5 : q ≠ wType) (n6 : q ≠ wSort) (n7 : q ≠ sOpen) (n8 : q ≠ sEq) (n9 : q ≠ sArrow) : Bd0 s p := by
 have e1 : ∀ r, q ≠ r -> (FS.on s p).is r = false := fun r hr => on_is_no' (by rw [hx]; exact hr)
 have e2 : ∀ k, k ≠ 3 -> (FS.on s p).kin k = false := fun k hk => by rw [on_kin hx]; simp; omega
 refine ⟨⟨⟨⟨ends_of h h1 h2, e2 2 (by decide), e1 _ n1⟩, ?_⟩, e1 _ n8⟩, e1 _ n9⟩; unfold begins; rw [e2 1 (by decide), e1 _ n2, e1 _ n3, e1 _ n4, e1 _ n5, e1 _ n6, e1 _ n7]
 rfl
theorem shut_bd {p : Nat} (h : Has s p [41]) : Bd0 s p := sign_bd h (lex_shut h) rfl (by decide) (by decide) (by decide) (by decide) (by decide) (by decide) (by decide) (by decide) (by decide) (by decide)
theorem open_beg {p : Nat} (h : Has s p [40]) : begins (FS.on s p) = true /\ Fst s p := by
 have ho := lex_open h; have e1 : ∀ r, sOpen ≠ r -> (FS.on s p).is r = false := fun r hr => on_is_no' (by rw [ho]; exact hr)
 refine ⟨?_, e1 _ (by decide), e1 _ (by decide), e1 _ (by decide)⟩; unfold begins; rw [on_is ho]
 simp
theorem ExT.br (h : ExT s m t e) : AtomT s (m + 1) (inBr t) e := fun p hp hb => by
 have h1 : Has s p [40] := hp.left.left; have h2 : Has s (p + 1) t := hp.left.right
 have h3 : Has s (p + 1 + t.length) [41] := by
  have := hp.right; have e : ([40] ++ t).length = 1 + t.length := by simp; omega
  rw [e, <- Nat.add_assoc] at this; exact this
 obtain ⟨e', he, hr⟩ := h (p + 1) h2 (shut_bd h3); have ho := lex_open h1; have hs := lex_shut h3; have e1 : ∀ r, sOpen ≠ r -> (FS.on s p).is r = false := fun r hr => on_is_no' (by rw [ho]; exact hr)
 obtain ⟨g1, g2⟩ := open_beg h1; refine ⟨g1, g2, e', he, ?_⟩; unfold atomF
 rw [if_neg (by rw [on_kin ho]; simp), if_neg (by rw [e1 sAt (by decide)]; simp), if_neg (by rw [e1 sHole (by decide)]; simp), if_neg (by rw [e1 wProp (by decide)]; simp), if_neg (by rw [e1 wType (by decide)]; simp), if_neg (by rw [e1 wSort (by decide)]; simp), if_pos (on_is ho), on_step ho]
 unfold bracketX
 simp only
 rw [hr]
 simp only
 rw [if_neg (by rw [on_is_no' (by rw [hs]; show sShut ≠ sColon; decide)]; simp), must_on hs]; have e : p + 1 + t.length + 1 = p + (inBr t).length := by unfold inBr; simp; omega
 rw [e]
theorem begins_no {st : FS} (h : begins st = true) : st.kin 2 = false /\ st.is sLevels = false := by
 have hx : st.kin 1 = true \/ (st.code = 0 /\ st.t.kd = 3 /\ st.t.t ≠ sLevels) := by
  unfold begins at h
  simp only [Bool.or_eq_true] at h
  rcases h with (((((h | h) | h) | h) | h) | h) | h
  . exact .inl h
  all_goals
   obtain ⟨a, b, c⟩ := FS.is_kd h; refine .inr ⟨a, b, ?_⟩; rw [c]
   decide
 rcases hx with h | ⟨a, b, c⟩
 . obtain ⟨a, b⟩ := FS.kin_kd h
   unfold FS.kin FS.is; rw [b]
   simp
 . unfold FS.kin FS.is
   rw [b]
   simp [c]
theorem blank_bd {p : Nat} (h : Has s p [32]) (hb : begins (FS.on s (p + 1)) = true) : Bd4 s p := by
 rw [<- on_blank h] at hb; obtain ⟨h1, h2⟩ := begins_no hb; exact ⟨ends_of h rfl (by decide), h1, h2⟩
theorem app_read {tf tx : List UInt8} {f x : Ex} {a c : Nat} (hf : AppT s m tf f c) (hx : AtomT s m tx x) (hm : c < m) : AppT s m (tf ++ [32] ++ tx) (appX a f x) (c + 1) := fun p hp hb => by
 have h1 : Has s p tf := hp.left.left; have h2 : Has s (p + tf.length) [32] := hp.left.right
 have h3 : Has s (p + tf.length + 1) tx := by
  have := hp.right; have e : (tf ++ [32]).length = tf.length + 1 := by simp
  rw [e, <- Nat.add_assoc] at this; exact this
 have e : p + (tf ++ [32] ++ tx).length = p + tf.length + 1 + tx.length := by simp; omega
 rw [e] at hb ⊢; obtain ⟨b1, _, x', ex, rx⟩ := hx _ h3 hb; obtain ⟨g1, g2, f', j, ef, hj, rf⟩ := hf p h1 (blank_bd h2 b1); obtain ⟨i, rfl⟩ : ∃ i, j = i + 1 := ⟨j - 1, by omega⟩
 refine ⟨g1, g2, appX f'.at_ f' x', i, ?_, by omega, ?_⟩
 . rw [er_node, er_node]
   simp [ef, ex]
 . rw [rf]
   simp only [applyN]
   rw [on_blank h2, if_pos b1, rx]
end
section
variable {s : ByteArray} {m : Nat}
theorem name_on {q : ByteArray} {p e a : Nat} (h : lex s p = (⟨1, q, a⟩, e)) : (FS.on s p).name s = (q, FS.on s e) := by
 unfold FS.name; rw [if_pos (by rw [on_kin h]; rfl), on_step h]; have e1 : (FS.on s p).t.t = q := by unfold FS.on; rw [h]
 rw [e1]
theorem name_beg {q : ByteArray} {p e a : Nat} (h : lex s p = (⟨1, q, a⟩, e)) : begins (FS.on s p) = true /\ Fst s p := by
 have e1 : ∀ r, (FS.on s p).is r = false := fun r => on_is_no (by rw [h]; simp)
 refine ⟨?_, e1 _, e1 _, e1 _⟩; unfold begins; rw [on_kin h]
 simp
theorem sign_beg {q : ByteArray} {p e a : Nat} (h : lex s p = (⟨3, q, a⟩, e)) (hq : q = sAt \/ q = sHole \/ q = wProp \/ q = wType \/ q = wSort \/ q = sOpen) : begins (FS.on s p) = true /\ Fst s p := by
 have e1 : ∀ r, q ≠ r -> (FS.on s p).is r = false := fun r hr => on_is_no' (by rw [h]; exact hr)
 have e2 := on_is h; refine ⟨?_, e1 _ ?_, e1 _ ?_, e1 _ ?_⟩
 . unfold begins
   rcases hq with rfl | rfl | rfl | rfl | rfl | rfl <;> rw [e2] <;> simp
 all_goals rcases hq with rfl | rfl | rfl | rfl | rfl | rfl <;> decide
theorem atom_sign {q : ByteArray} {p e a : Nat} (h : lex s p = (⟨3, q, a⟩, e)) (E : FS -> Ex × FS) :
 (q = sAt -> atomF s m E (FS.on s p) = nameX s m (FS.on s p).t.at_ true (FS.on s e)) /\ (q = sHole -> atomF s m E (FS.on s p) = (holeX (FS.on s p).t.at_, FS.on s e)) /\ (q = wProp -> atomF s m E (FS.on s p) = (sortX (FS.on s p).t.at_ .zero, FS.on s e)) /\
 (q = wType -> (FS.on s e).kin 2 = false -> atomF s m E (FS.on s p) = (sortX (FS.on s p).t.at_ (.succ .zero), FS.on s e)) /\ (q = wSort -> atomF s m E (FS.on s p) = (sortX (FS.on s p).t.at_ (latomN s m (FS.on s e)).1, (latomN s m (FS.on s e)).2)) /\
 (q = sOpen -> atomF s m E (FS.on s p) = bracketX s E (FS.on s p).t.at_ (FS.on s e)) := by
 have e1 : ∀ r, q ≠ r -> ¬ ((FS.on s p).is r = true) := fun r hr => by rw [on_is_no' (by rw [h]; exact hr)]; simp
 have e2 := on_is h; have e3 : ¬ ((FS.on s p).kin 1 = true) := by rw [on_kin h]; simp
 have e4 := on_step h; refine ⟨?_, ?_, ?_, ?_, ?_, ?_⟩
 . rintro rfl
   unfold atomF; rw [if_neg e3, if_pos e2, e4]
 . rintro rfl
   unfold atomF; rw [if_neg e3, if_neg (e1 _ (by decide)), if_pos e2, e4]
 . rintro rfl
   unfold atomF; rw [if_neg e3, if_neg (e1 _ (by decide)), if_neg (e1 _ (by decide)), if_pos e2, e4]
 . rintro rfl hk
   unfold atomF; rw [if_neg e3, if_neg (e1 _ (by decide)), if_neg (e1 _ (by decide)), if_neg (e1 _ (by decide)), if_pos e2, e4, if_neg (by rw [hk]; simp)]
 . rintro rfl
   unfold atomF; rw [if_neg e3, if_neg (e1 _ (by decide)), if_neg (e1 _ (by decide)), if_neg (e1 _ (by decide)), if_neg (e1 _ (by decide)), if_pos e2, e4]
 . rintro rfl
   unfold atomF; rw [if_neg e3, if_neg (e1 _ (by decide)), if_neg (e1 _ (by decide)), if_neg (e1 _ (by decide)), if_neg (e1 _ (by decide)), if_neg (e1 _ (by decide)), if_pos e2, e4]
theorem word_at {q : ByteArray} {p : Nat} (h : Has s p q.data.toList) (he : Ends s (p + q.data.toList.length)) (h0 : 0 < q.size) (h1 : q.size <= 40) (hf : alphaB (at_ q 0) = true) (hn : lnameEnd q 0 = q.size) (hi : isWord q = true) : lex s p = (⟨3, q, p⟩, p + q.data.toList.length) := by
 have e : q.data.toList.length = q.size := by rw [Array.length_toList]; rfl
 rw [e] at he ⊢; rw [lex_alpha h he h0 h1 hf hn, if_pos hi]
theorem hole_atom (a : Nat) : AtomT s m [95] (holeX a) := fun p hp hb => by
 have hx : lex s p = (⟨3, sHole, p⟩, p + 1) := lex_sign hp rfl (fun _ => rfl); obtain ⟨g1, g2⟩ := sign_beg hx (by simp); exact ⟨g1, g2, _, by rw [er_node, er_node], (atom_sign (m := m) hx (exprN s m)).2.1 rfl⟩
theorem name_atom (a : Nat) (q : ByteArray) (hq : LNm q) : AtomT s m q.data.toList (.node 1 a q false false false false [] []) := fun p hp hb => by
 have hx := hq.toks hp hb.ends; obtain ⟨g1, g2⟩ := name_beg hx; refine ⟨g1, g2, .node 1 (FS.on s p).t.at_ q false false false false [] [], by rw [er_node, er_node], ?_⟩; unfold atomF; rw [if_pos (by rw [on_kin hx]; rfl)]
 unfold nameX
 simp only
 rw [name_on hx]
 simp only
 rw [if_neg (by rw [hb.lev]; simp)]
theorem at_atom (a : Nat) (q : ByteArray) (hq : LNm q) : AtomT s m ([64] ++ q.data.toList) (.node 1 a q true false false false [] []) := fun p hp hb => by
 have h1 : Has s p [64] := hp.left; have h2 : Has s (p + 1) q.data.toList := hp.right
 have e : p + ([64] ++ q.data.toList).length = p + 1 + q.data.toList.length := by simp only [List.length_append, List.length_cons, List.length_nil]; omega
 rw [e] at hb ⊢; have hx : lex s p = (⟨3, sAt, p⟩, p + 1) := lex_sign h1 rfl (fun _ => rfl); have hy := hq.toks h2 hb.ends; obtain ⟨g1, g2⟩ := sign_beg hx (by simp)
 refine ⟨g1, g2, .node 1 (FS.on s p).t.at_ q true false false false [] [], by rw [er_node, er_node], ?_⟩; rw [(atom_sign (m := m) hx (exprN s m)).1 rfl]; unfold nameX
 simp only
 rw [name_on hy]
 simp only
 rw [if_neg (by rw [hb.lev]; simp)]
theorem prop_atom (a : Nat) : AtomT s m [80, 114, 111, 112] (sortX a .zero) := fun p hp hb => by
 have hx : lex s p = (⟨3, wProp, p⟩, p + 4) := word_at (q := wProp) hp hb.ends (by decide) (by decide) (by decide) (by decide) (by decide); obtain ⟨g1, g2⟩ := sign_beg hx (by simp)
 exact ⟨g1, g2, _, by rw [er_node, er_node], (atom_sign (m := m) hx (exprN s m)).2.2.1 rfl⟩
theorem type_atom (a : Nat) : AtomT s m [84, 121, 112, 101] (sortX a (.succ .zero)) := fun p hp hb => by
 have hx : lex s p = (⟨3, wType, p⟩, p + 4) := word_at (q := wType) hp hb.ends (by decide) (by decide) (by decide) (by decide) (by decide); obtain ⟨g1, g2⟩ := sign_beg hx (by simp)
 exact ⟨g1, g2, _, by rw [er_node, er_node], (atom_sign (m := m) hx (exprN s m)).2.2.2.1 rfl hb.num⟩
theorem sort_atom (a : Nat) (l : LvB) (hl : GoodAt l 0) (hm : need l 0 < m) : AtomT s m ([83, 111, 114, 116, 32] ++ latText l) (sortX a l) := fun p hp hb => by
 have h1 : Has s p ([83, 111, 114, 116] ++ [32]) := hp.left; have h2 : Has s (p + 5) (latGo (lvGo l 0)) := hp.right
 have e : p + ([83, 111, 114, 116, 32] ++ latText l).length = p + 5 + (latGo (lvGo l 0)).length := by
  simp only [List.length_append, List.length_cons, List.length_nil]
  show p + (5 + (latText l).length) = _; rw [<- Nat.add_assoc]
  rfl
 rw [e] at hb ⊢; have h3 : Has s (p + 4) [32] := h1.right
 have hx : lex s p = (⟨3, wSort, p⟩, p + 4) := word_at (q := wSort) h1.left (ends_of h3 rfl (by decide)) (by decide) (by decide) (by decide) (by decide) (by decide); obtain ⟨g1, g2⟩ := sign_beg hx (by simp)
 have hr := lat_read (s := s) (n := m) hl (lv_read s l 0 m hl hm) h2 hb.ends; refine ⟨g1, g2, sortX (FS.on s p).t.at_ l, by rw [er_node, er_node], ?_⟩; rw [(atom_sign (m := m) hx (exprN s m)).2.2.2.2.1 rfl]
 unfold latomN; rw [on_blank h3, hr]
 rfl
theorem lex_eq {p : Nat} (h : Has s p [61, 32]) : lex s p = (⟨3, sEq, p⟩, p + 1) := by
 have h1 : Has s p [61] := h.left (u := [32]); have h2 : Has s (p + 1) [32] := h.right (t := [61]); refine lex_one h1 rfl ?_; rw [h2.head.2.1]
 simp [twoB]
theorem blank_sign {p a b : Nat} {q : ByteArray} (h : Has s p [32]) (hx : lex s (p + 1) = (⟨3, q, a⟩, b)) (n1 : q ≠ sLevels) (n2 : q ≠ sAt) (n3 : q ≠ sHole) (n4 : q ≠ wProp) (n5 : q ≠ wType) (n6 : q ≠ wSort) (n7 : q ≠ sOpen) : Bd3 s p /\ ∀ r, q ≠ r -> (FS.on s p).is r = false := by
 have e1 : ∀ r, q ≠ r -> (FS.on s p).is r = false := fun r hr => by rw [on_blank h]; exact on_is_no' (by rw [hx]; exact hr)
 have e2 : ∀ k, k ≠ 3 -> (FS.on s p).kin k = false := fun k hk => by rw [on_blank h, on_kin hx]; simp; omega
 refine ⟨⟨⟨ends_of h rfl (by decide), e2 2 (by decide), e1 _ n1⟩, ?_⟩, e1⟩; unfold begins; rw [e2 1 (by decide), e1 _ n2, e1 _ n3, e1 _ n4, e1 _ n5, e1 _ n6, e1 _ n7]
 rfl
theorem eq_read {tx ty : List UInt8} {x y : Ex} {c d a b g : Nat} (hx : AppT s m tx x c) (hy : AppT s m ty y d) : EqT s m (tx ++ [32, 61, 32] ++ ty) (appX a (appX b (.node 1 g wEq false false true false [] []) x) y) := fun p hp hb => by
 have h1 : Has s p tx := hp.left.left; have h2 : Has s (p + tx.length) ([32] ++ ([61] ++ [32])) := hp.left.right; have h3 : Has s (p + tx.length) [32] := h2.left; have h4 : Has s (p + tx.length + 1) [61, 32] := h2.right
 have h5 : Has s (p + tx.length + 1 + 1) [32] := h4.right (t := [61])
 have h6 : Has s (p + tx.length + 1 + 1 + 1) ty := by
  have := hp.right; have e : (tx ++ [32, 61, 32]).length = tx.length + 1 + 1 + 1 := by simp
  rw [e, <- Nat.add_assoc, <- Nat.add_assoc, <- Nat.add_assoc] at this; exact this
 have e : p + (tx ++ [32, 61, 32] ++ ty).length = p + tx.length + 1 + 1 + 1 + ty.length := by simp; omega
 rw [e] at hb ⊢; have he := lex_eq h4; obtain ⟨b3, _⟩ := blank_sign h3 he (by decide) (by decide) (by decide) (by decide) (by decide) (by decide) (by decide); obtain ⟨f1, x', ex, rx⟩ := hx.done h1 b3
 obtain ⟨_, y', ey, ry⟩ := hy.done h6 hb.b3
 refine ⟨f1, appX (FS.on s (p + tx.length + 1)).t.at_ (appX (FS.on s (p + tx.length + 1)).t.at_ (.node 1 (FS.on s (p + tx.length + 1)).t.at_ wEq false false true false [] []) x') y', ?_, ?_⟩
 . simp only [er_node, List.map_cons, List.map_nil, ex, ey]
 . unfold equalF
   simp only
   rw [rx]
   simp only
   rw [on_blank h3, if_pos (on_is he), on_step he, on_blank h5, ry]
theorem lex_arrow {p : Nat} (h : Has s p [45, 62]) : lex s p = (⟨3, sArrow, p⟩, p + 2) := lex_two h rfl
theorem arrow_read {tx ty : List UInt8} {x y : Ex} {a : Nat} (hx : EqT s (m + 1) tx x) (hy : ExT s m ty y) : ExT s (m + 1) (tx ++ [32, 45, 62, 32] ++ ty) (.node 6 a ⟨#[]⟩ false false false false [] [x, y]) := fun p hp hb => by
 have h1 : Has s p tx := hp.left.left; have h2 : Has s (p + tx.length) ([32] ++ ([45, 62] ++ [32])) := hp.left.right; have h3 : Has s (p + tx.length) [32] := h2.left
 have h4 : Has s (p + tx.length + 1) [45, 62] := (h2.right (t := [32])).left; have h5 : Has s (p + tx.length + 1 + 2) [32] := (h2.right (t := [32])).right (t := [45, 62])
 have h6 : Has s (p + tx.length + 1 + 2 + 1) ty := by
  have := hp.right; have e : (tx ++ [32, 45, 62, 32]).length = tx.length + 1 + 2 + 1 := by simp
  rw [e, <- Nat.add_assoc, <- Nat.add_assoc, <- Nat.add_assoc] at this; exact this
 have e : p + (tx ++ [32, 45, 62, 32] ++ ty).length = p + tx.length + 1 + 2 + 1 + ty.length := by simp; omega
 rw [e] at hb ⊢; have he := lex_arrow h4; obtain ⟨b3, b4⟩ := blank_sign h3 he (by decide) (by decide) (by decide) (by decide) (by decide) (by decide) (by decide); obtain ⟨f1, x', ex, rx⟩ := hx p h1 ⟨b3, b4 _ (by decide)⟩
 obtain ⟨y', ey, ry⟩ := hy _ h6 hb; refine ⟨.node 6 (FS.on s (p + tx.length + 1)).t.at_ ⟨#[]⟩ false false false false [] [x', y'], by simp only [er_node, List.map_cons, List.map_nil, ex, ey], ?_⟩
 show exprF s (m + 1) (exprN s (m + 1)) (FS.on s p) = _; unfold exprF
 simp only
 rw [if_neg (by rw [f1.f]; simp), if_neg (by rw [f1.a]; simp), if_neg (by rw [f1.l]; simp), rx]
 simp only
 rw [on_blank h3, if_pos (on_is he), on_step he, on_blank h5, ry]
end
end Go.Proofs.YtockffblncdikaaGreatDoor
