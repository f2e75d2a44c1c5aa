/- What the language's reader makes, where nothing fails and the fuel serves: tactics, constructors, commands. No walk. -/
import Derived.Test.YtockffblncdikaaGreatDoorSn
namespace Go.Proofs.YtockffblncdikaaGreatDoor
open Go.RowKit
set_option maxRecDepth 100000
set_option maxHeartbeats 16000000
section
variable {s : ByteArray} {st st1 : FS}
theorem Sn.back (h : Sn s st st1) (hc : st1.code = 0) : st.code = 0 := by
 by_cases h0 : st.code = 0
 . exact h0
 . rw [h.code h0] at hc
   exact absurd hc h0
theorem Sfw.back {α : Type} {E : FS -> α × FS} (h : Sfw s E) (hd : st.Sd s) (hc : (E st).2.code = 0) : st.code = 0 := (h st hd).back hc
theorem step_back (hc : (st.step s).code = 0) : st.code = 0 := by
 unfold FS.step at hc
 split at hc
 . assumption
 . exact hc
theorem must_ok {q : ByteArray} (hc : (st.must s q).code = 0) : st.is q = true /\ st.code = 0 := by
 unfold FS.must at hc
 split at hc
 . rename_i h
   exact ⟨h, (FS.is_kd h).1⟩
 . exact absurd hc FS.fail_code
theorem step_left2 (h : st.Ok s) (hc : st.code = 0) (h1 : 1 <= st.t.kd) (h3 : st.t.kd <= 3) : (st.step s).left s + 2 <= st.left s := by
 have h4 := FS.step_left h hc h1 h3
 have h5 : (st.step s).code = 0 := by
  unfold FS.step; rw [if_pos hc]; exact hc
 unfold FS.left at h4 ⊢; rw [if_pos hc, if_pos h5] at h4 ⊢; omega
theorem must_left {q : ByteArray} (h : st.Sd s) (hc : (st.must s q).code = 0) : (st.must s q).left s + 2 <= st.left s := by
 obtain ⟨h1, h2⟩ := must_ok hc; obtain ⟨_, h3, _⟩ := FS.is_kd h1; unfold FS.must; rw [if_pos h1]; exact step_left2 h.ok h2 (by omega) (by omega)
theorem is_left {q : ByteArray} (h : st.Sd s) (h1 : st.is q = true) : (st.step s).left s + 2 <= st.left s := by
 obtain ⟨h2, h3, _⟩ := FS.is_kd h1; exact step_left2 h.ok h2 (by omega) (by omega)
theorem kin_left {k : Nat} (h : st.Sd s) (h1 : st.kin k = true) (h2 : 1 <= k) (h3 : k <= 3) : (st.step s).left s + 2 <= st.left s := by
 obtain ⟨h4, h5⟩ := FS.kin_kd h1; exact step_left2 h.ok h4 (by omega) (by omega)
theorem name_ok (h : st.Sd s) (hc : (st.name s).2.code = 0) : LNm (st.name s).1 /\ st.code = 0 /\ (st.name s).2.left s + 2 <= st.left s := by
 unfold FS.name at hc ⊢
 split at hc
 . rename_i h1
   rw [if_pos h1]; obtain ⟨h2, h3⟩ := FS.kin_kd h1; exact ⟨h.nm h2 h3, h2, kin_left h h1 (by omega) (by omega)⟩
 . exact absurd hc FS.fail_code
theorem raised_good {l : LvB} (hl : GoodAt l 0) (hc : (raised s l st).2.code = 0) : GoodAt (raised s l st).1 0 := by
 unfold raised at hc ⊢
 split at hc
 . rename_i h1
   rw [if_pos h1]
   split at hc
   . exact absurd hc FS.fail_code
   . rename_i h2
     rw [if_neg h2]; have := good_more l 0 (decV st.t.t) hl (by omega); rw [Nat.zero_add] at this; exact good_succ _ _ this
 . exact absurd hc FS.fail_code
end
def GL (s : ByteArray) (L : FS -> LvB × FS) : Prop := ∀ st, st.Sd s -> (L st).2.code = 0 -> GoodAt (L st).1 0
section
variable {s : ByteArray} {L : FS -> LvB × FS}
theorem zero_good : GoodAt .zero 0 := by show 0 < 100; omega
theorem latomF_good (hL : GL s L) : GL s (latomF s L) := fun st h hc => by
 unfold latomF at hc ⊢
 split at hc
 . rename_i h1
   rw [if_pos h1]; exact raised_good zero_good hc
 rename_i h1; rw [if_neg h1]
 split at hc
 . rename_i h2
   rw [if_pos h2]; exact ⟨by omega, (name_ok h hc).1⟩
 rename_i h2; rw [if_neg h2]
 split at hc
 . rename_i h3
   rw [if_pos h3]; exact hL _ h.step (must_ok hc).2
 . exact absurd hc FS.fail_code
theorem plusN_good : ∀ (m : Nat) (l : LvB), GoodAt l 0 -> GL s (plusN s m l)
 | 0, _, hl => fun _ _ _ => hl
 | m + 1, l, hl => fun st h hc => by
   simp only [plusN] at hc ⊢
   split at hc
   . rename_i h1
     rw [if_pos h1]; have hd : Sn s st (raised s l (st.step s)).2 := (Sn.refl h).step.raised; exact plusN_good m _ (raised_good hl ((plusN_sfw m _).back hd.ok hc)) _ hd.ok hc
   . rename_i h1
     rw [if_neg h1]; exact hl
theorem twoF_good (hL : GL s L) (hF : Sfw s L) {st : FS} (h : st.Sd s) (hc : (twoF s L st).2.2.code = 0) : GoodAt (twoF s L st).1 0 /\ GoodAt (twoF s L st).2.1 0 :=
 ⟨latomF_good hL _ h ((latomF_sfw hF).back (latomF_sfw hF st h).ok hc), latomF_good hL _ (latomF_sfw hF st h).ok hc⟩
theorem levelF_good (hL : GL s L) (hF : Sfw s L) (m : Nat) : GL s (levelF s L m) := fun st h hc => by
 unfold levelF at hc ⊢
 split at hc
 . rename_i h1
   rw [if_pos h1]; exact ⟨by omega, twoF_good hL hF h.step hc⟩
 rename_i h1; rw [if_neg h1]
 split at hc
 . rename_i h2
   rw [if_pos h2]; exact ⟨by omega, twoF_good hL hF h.step hc⟩
 . rename_i h2
   rw [if_neg h2]; exact plusN_good m _ (latomF_good hL _ h ((plusN_sfw m _).back (latomF_sfw hF st h).ok hc)) _ (latomF_sfw hF st h).ok hc
theorem levelN_good : ∀ n, GL s (levelN s n)
 | 0 => fun _ _ _ => zero_good
 | n + 1 => levelF_good (levelN_good n) (levelN_sfw n) (n + 1)
theorem latomN_good (n : Nat) : GL s (latomN s n) := latomF_good (levelN_good n)
theorem levelsN_good (n : Nat) : ∀ (m : Nat) (ls : List LvB), (∀ x ∈ ls, GoodAt x 0) -> ∀ st, st.Sd s -> (levelsN s n m ls st).2.code = 0 -> ∀ x ∈ (levelsN s n m ls st).1, GoodAt x 0
 | 0, _, hl => fun _ _ _ => hl
 | m + 1, ls, hl => fun st h hc => by
   simp only [levelsN] at hc ⊢
   split at hc
   . rename_i h1
     rw [if_pos h1]; have hd : Sn s st (levelN s n (st.step s)).2 := (levelN_sfw n).sn (Sn.refl h).step; refine levelsN_good n m _ (fun x hx => ?_) _ hd.ok hc
     rcases List.mem_append.1 hx with hx | hx
     . exact hl x hx
     . rw [List.mem_singleton.1 hx]
       exact levelN_good n _ h.step ((levelsN_sfw n m _).back hd.ok hc)
   . rename_i h1
     rw [if_neg h1]; exact hl
theorem levelsN_head (n : Nat) : ∀ (m : Nat) (l : LvB) (ls : List LvB) (st : FS), ∃ r, (levelsN s n m (l :: ls) st).1 = l :: r
 | 0, _, ls, _ => ⟨ls, rfl⟩
 | m + 1, l, ls, st => by
   simp only [levelsN]
   split
   . exact levelsN_head n m l _ _
   . exact ⟨ls, rfl⟩
theorem nameX_good (n a : Nat) (ex : Bool) (st : FS) (h : st.Sd s) (hc : (nameX s n a ex st).2.code = 0) : GX (nameX s n a ex st).1 := by
 unfold nameX at hc ⊢
 simp only at hc ⊢
 have hd : Sn s st (st.name s).2 := (Sn.refl h).name
 split at hc
 . rename_i h1
   rw [if_pos h1]; have hd2 : Sn s st (levelN s n ((st.name s).2.step s)).2 := (levelN_sfw n).sn hd.step; have hc2 := (must_ok hc).2; have hc3 := (levelsN_sfw n n _).back hd2.ok hc2
   have hg := levelsN_good n n [(levelN s n ((st.name s).2.step s)).1] (fun x hx => by rw [List.mem_singleton.1 hx]; exact levelN_good n _ hd.ok.step hc3) _ hd2.ok hc2
   obtain ⟨r, hr⟩ := levelsN_head (s := s) n n (levelN s n ((st.name s).2.step s)).1 [] (levelN s n ((st.name s).2.step s)).2; rw [hr] at hg ⊢; exact .given _ _ _ _ _ (name_ok h (FS.is_kd h1).1).1 hg
 . rename_i h1
   rw [if_neg h1]; exact .name _ _ _ (name_ok h hc).1
end
def GE (s : ByteArray) (E : FS -> Ex × FS) (n : Nat) : Prop := ∀ st, st.Sd s -> st.left s < 2 * n -> (E st).2.code = 0 -> GX (E st).1
def GB (b : Bd) : Prop := LNm b.nm /\ GX b.ty
section
variable {s : ByteArray} {n m : Nat} {E : FS -> Ex × FS}
theorem bracketX_good (hE : GE s E m) (hF : Sfw s E) (a : Nat) : GE s (bracketX s E a) m := fun st h hl hc => by
 unfold bracketX at hc ⊢
 simp only at hc ⊢
 have hd := hF st h
 split at hc
 . rename_i h1
   rw [if_pos h1]; have hx := (must_ok hc).2; have := hd.step.left; exact .is _ _ _ (hE st h hl (FS.is_kd h1).1) (hE _ hd.ok.step (by omega) hx)
 . rename_i h1
   rw [if_neg h1]; exact hE st h hl (must_ok hc).2
theorem atomF_good (hE : GE s E m) (hF : Sfw s E) : GE s (atomF s n E) (m + 1) := fun st h hl hc => by
 unfold atomF at hc ⊢
 split at hc
 . rename_i h1
   rw [if_pos h1]; exact nameX_good _ _ _ st h hc
 rename_i h1; rw [if_neg h1]
 split at hc
 . rename_i h2
   rw [if_pos h2]; exact nameX_good _ _ _ _ h.step hc
 rename_i h2; rw [if_neg h2]
 split at hc
 . rename_i h3
   rw [if_pos h3]; exact .hole _
 rename_i h3; rw [if_neg h3]
 split at hc
 . rename_i h4
   rw [if_pos h4]; exact .sort _ _ zero_good
 rename_i h4; rw [if_neg h4]; have h1g : GoodAt (.succ .zero) 0 := by show 0 + 1 < 100; omega
 split at hc
 . rename_i h5
   rw [if_pos h5]
   split at hc
   . rename_i h6
     rw [if_pos h6]; exact .sort _ _ (raised_good h1g hc)
   . rename_i h6
     rw [if_neg h6]; exact .sort _ _ h1g
 rename_i h5; rw [if_neg h5]
 split at hc
 . rename_i h6
   rw [if_pos h6]; exact .sort _ _ (latomN_good n _ h.step hc)
 rename_i h6; rw [if_neg h6]
 split at hc
 . rename_i h7
   rw [if_pos h7]; have := is_left h h7; exact bracketX_good hE hF _ _ h.step (by omega) hc
 . exact absurd hc FS.fail_code
theorem applyN_good (hE : GE s E m) (hF : Sfw s E) : ∀ (k : Nat) (e : Ex), GX e -> GE s (applyN s n E k e) (m + 1)
 | 0, _, he => fun _ _ _ _ => he
 | k + 1, e, he => fun st h hl hc => by
   simp only [applyN] at hc ⊢
   split at hc
   . rename_i h1
     rw [if_pos h1]; have hd := atomF_sfw (n := n) hF st h; have := hd.left; exact applyN_good hE hF k _ (.app _ _ _ he (atomF_good hE hF st h hl ((applyN_sfw hF k _).back hd.ok hc))) _ hd.ok (by omega) hc
   . rename_i h1
     rw [if_neg h1]; exact he
theorem applyF_good (hE : GE s E m) (hF : Sfw s E) : GE s (applyF s n E) (m + 1) := fun st h hl hc => by
 have hd := atomF_sfw (n := n) hF st h; have := hd.left; exact applyN_good hE hF n _ (atomF_good hE hF st h hl ((applyN_sfw hF n _).back hd.ok hc)) _ hd.ok (by omega) hc
theorem equalF_good (hE : GE s E m) (hF : Sfw s E) : GE s (equalF s n E) (m + 1) := fun st h hl hc => by
 have hd := applyF_sfw (n := n) hF st h; unfold equalF at hc ⊢
 simp only at hc ⊢
 split at hc
 . rename_i h1
   rw [if_pos h1]; have := hd.step.left; exact .eq _ _ _ _ _ (applyF_good hE hF st h hl (FS.is_kd h1).1) (applyF_good hE hF _ hd.ok.step (by omega) hc)
 . rename_i h1
   rw [if_neg h1]; exact applyF_good hE hF st h hl hc
theorem namesN_good : ∀ (k : Nat) (l : List (ByteArray × Nat)), (∀ x ∈ l, LNm x.1) -> ∀ st, st.Sd s -> (namesN s k l st).2.code = 0 -> ∀ x ∈ (namesN s k l st).1, LNm x.1
 | 0, _, hl => fun _ _ _ => hl
 | k + 1, l, hl => fun st h hc => by
   have hd : Sn s st (st.name s).2 := (Sn.refl h).name
   simp only [namesN] at hc ⊢
   have hm : (st.name s).2.code = 0 -> ∀ x ∈ l ++ [((st.name s).1, st.t.at_)], LNm x.1 := fun h0 x hx => by
    rcases List.mem_append.1 hx with hx | hx
    . exact hl x hx
    . rw [List.mem_singleton.1 hx]
      exact (name_ok h h0).1
   split at hc
   . rename_i h1
     rw [if_pos h1]; exact namesN_good k _ (hm (FS.kin_kd h1).1) _ hd.ok hc
   . rename_i h1
     rw [if_neg h1]; exact hm hc
theorem groupF_good (hE : GE s E m) (hF : Sfw s E) (st : FS) (h : st.Sd s) (hl : st.left s < 2 * (m + 1)) (hc : (groupF s n E st).2.code = 0) : ∀ b ∈ (groupF s n E st).1, GB b := by
 have key : ∀ (st1 : FS) (q : ByteArray) (im : Bool), Sn s st st1 -> (st1.code = 0 -> st1.left s + 2 <= st.left s) -> ((E ((namesN s (n + 1) [] st1).2.must s sColon)).2.must s q).code = 0 -> ∀ b ∈ (namesN s (n + 1) [] st1).1.map (fun x => (⟨x.1, im, (E ((namesN s (n + 1) [] st1).2.must s sColon)).1, x.2⟩ : Bd)), GB b := by
  intro st1 q im hd hs hc b hb; have d1 := (namesN_sfw (n + 1) []).sn hd; have c1 := (must_ok hc).2; have c2 := hF.back d1.must.ok c1; have c3 := (must_ok c2).2; have c4 := (namesN_sfw (n + 1) []).back hd.ok c3
  have l1 := hs c4; have l2 := ((namesN_sfw (s := s) (n + 1) [] st1 hd.ok).must (q := sColon)).left; obtain ⟨x, hx, rfl⟩ := List.mem_map.1 hb
  exact ⟨namesN_good (n + 1) [] (fun x hx => absurd hx (by simp)) st1 hd.ok c3 x hx, hE _ d1.must.ok (by omega) c1⟩
 unfold groupF at hc ⊢
 simp only at hc ⊢
 by_cases h1 : st.is sBrace = true
 . simp only [if_pos h1] at hc ⊢
   exact key _ _ _ (Sn.refl h).step (fun _ => is_left h h1) hc
 . simp only [if_neg h1] at hc ⊢
   exact key _ _ _ (Sn.refl h).must (fun h0 => must_left h h0) hc
theorem app_good {l k : List Bd} (h1 : ∀ b ∈ l, GB b) (h2 : ∀ b ∈ k, GB b) : ∀ b ∈ l ++ k, GB b := fun b hb => (List.mem_append.1 hb).elim (h1 b) (h2 b)
theorem groupsN_good (hE : GE s E m) (hF : Sfw s E) : ∀ (k : Nat) (l : List Bd), (∀ b ∈ l, GB b) -> ∀ st, st.Sd s -> st.left s < 2 * (m + 1) -> (groupsN s n E k l st).2.code = 0 -> ∀ b ∈ (groupsN s n E k l st).1, GB b
 | 0, _, hb => fun _ _ _ _ => hb
 | k + 1, l, hb => fun st h hl hc => by
   simp only [groupsN] at hc ⊢
   have hd := groupF_sfw (n := n) hF st h; have := hd.left
   split at hc
   . rename_i h1
     rw [if_pos h1]; exact groupsN_good hE hF k _ (app_good hb (groupF_good hE hF st h hl ((groupsN_sfw hF k _).back hd.ok hc))) _ hd.ok (by omega) hc
   . rename_i h1
     rw [if_neg h1]; exact hb
theorem funsN_good (hE : GE s E m) (hF : Sfw s E) : ∀ (k : Nat) (l : List Bd), (∀ b ∈ l, GB b) -> ∀ st, st.Sd s -> st.left s < 2 * (m + 1) -> (funsN s n E k l st).2.code = 0 -> ∀ b ∈ (funsN s n E k l st).1, GB b
 | 0, _, hb => fun _ _ _ _ => hb
 | k + 1, l, hb => fun st h hl hc => by
   simp only [funsN] at hc ⊢
   split at hc
   . rename_i h1
     rw [if_pos h1]; have hd : Sn s st (st.name s).2 := (Sn.refl h).name; have := hd.left; refine funsN_good hE hF k _ (app_good hb fun b hb => ?_) _ hd.ok (by omega) hc; rw [List.mem_singleton.1 hb]
     exact ⟨(name_ok h ((funsN_sfw hF k _).back hd.ok hc)).1, .hole _⟩
   rename_i h1; rw [if_neg h1]
   split at hc
   . rename_i h2
     rw [if_pos h2]; have hd := groupF_sfw (n := n) hF st h; have := hd.left; exact funsN_good hE hF k _ (app_good hb (groupF_good hE hF st h hl ((funsN_sfw hF k _).back hd.ok hc))) _ hd.ok (by omega) hc
   . rename_i h2
     rw [if_neg h2]; exact hb
theorem under_good5 {e : Ex} (he : GX e) : ∀ (l : List Bd), (∀ b ∈ l, GB b) -> GX (underX 5 l e)
 | [], _ => he
 | b :: l, hb => .func _ _ _ _ _ (hb b (by simp)).1 (hb b (by simp)).2 (under_good5 he l fun x hx => hb x (by simp [hx]))
theorem under_good6 {e : Ex} (he : GX e) : ∀ (l : List Bd), (∀ b ∈ l, GB b) -> GX (underX 6 l e)
 | [], _ => he
 | b :: l, hb => .all _ _ _ _ _ (hb b (by simp)).1 (hb b (by simp)).2 (under_good6 he l fun x hx => hb x (by simp [hx]))
theorem some1_ok {p : List Bd × FS} (hc : (some1 p).2.code = 0) : some1 p = p := by
 unfold some1 at hc ⊢
 split at hc
 . exact absurd hc FS.fail_code
 . rename_i h
   rw [if_neg h]
theorem letX_good (hE : GE s E m) (hF : Sfw s E) : GE s (letX s E) m := fun st h hl hc => by
 unfold letX at hc ⊢
 simp only at hc ⊢
 have d1 : Sn s st (st.name s).2 := (Sn.refl h).name; have d2 := hF.sn (d1.must (q := sColon)); have d3 := hF.sn (d2.must (q := sBe)); have l1 := (d1.must (q := sColon)).left; have l2 := (d2.must (q := sBe)).left
 have l3 := (d3.must (q := wIn)).left; have c3 := (must_ok (hF.back d3.must.ok hc)).2; have c2 := (must_ok (hF.back d2.must.ok c3)).2; have c1 := (must_ok (hF.back d1.must.ok c2)).2
 exact .lets _ _ _ _ _ (name_ok h c1).1 (hE _ d1.must.ok (by omega) c2) (hE _ d2.must.ok (by omega) c3) (hE _ d3.must.ok (by omega) hc)
theorem exprF_good (hE : GE s E m) (hF : Sfw s E) : GE s (exprF s n E) (m + 1) := fun st h hl hc => by
 unfold exprF at hc ⊢
 simp only at hc ⊢
 split at hc
 . rename_i h1
   rw [if_pos h1]; have l0 := is_left h h1; have d1 : Sn s st (some1 (funsN s n E n [] (st.step s))).2 := some1_sn ((funsN_sfw hF n []).sn (Sn.refl h).step); have c1 := (must_ok (hF.back d1.must.ok hc)).2
   have e1 := some1_ok c1; have l1 : ((some1 (funsN s n E n [] (st.step s))).2.must s sTo).left s <= (st.step s).left s := (some1_sn (funsN_sfw (n := n) hF n [] (st.step s) h.step)).must.left
   refine under_good5 (hE _ d1.must.ok (by omega) hc) _ ?_; rw [e1] at c1 ⊢; exact funsN_good hE hF n [] (fun x hx => absurd hx (by simp)) _ h.step (by omega) c1
 rename_i h1; rw [if_neg h1]
 split at hc
 . rename_i h2
   rw [if_pos h2]; have l0 := is_left h h2; have d1 : Sn s st (some1 (groupsN s n E n [] (st.step s))).2 := some1_sn ((groupsN_sfw hF n []).sn (Sn.refl h).step); have c1 := (must_ok (hF.back d1.must.ok hc)).2
   have e1 := some1_ok c1; have l1 : ((some1 (groupsN s n E n [] (st.step s))).2.must s sComma).left s <= (st.step s).left s := (some1_sn (groupsN_sfw (n := n) hF n [] (st.step s) h.step)).must.left
   refine under_good6 (hE _ d1.must.ok (by omega) hc) _ ?_; rw [e1] at c1 ⊢; exact groupsN_good hE hF n [] (fun x hx => absurd hx (by simp)) _ h.step (by omega) c1
 rename_i h2; rw [if_neg h2]
 split at hc
 . rename_i h3
   rw [if_pos h3]; have l0 := is_left h h3; exact letX_good hE hF _ h.step (by omega) hc
 rename_i h3; rw [if_neg h3]; have d1 := equalF_sfw (n := n) hF st h
 split at hc
 . rename_i h4
   rw [if_pos h4]; have l1 := is_left d1.ok h4; have := d1.left; exact .arrow _ _ _ (equalF_good hE hF st h hl (FS.is_kd h4).1) (hE _ d1.ok.step (by omega) hc)
 . rename_i h4
   rw [if_neg h4]; exact equalF_good hE hF st h hl hc
end
theorem exprN_good {s : ByteArray} : ∀ n, GE s (exprN s n) n
 | 0 => fun _ _ hl _ => absurd hl (by omega)
 | n + 1 => exprF_good (exprN_good n) (exprN_sfw n)
inductive GTc : Tc -> Prop
 | intro (a : Nat) (q : ByteArray) (l : List ByteArray) : LNm q -> (∀ x ∈ l, LNm x) -> GTc ⟨1, a, q :: l, 0, []⟩
 | one (k a : Nat) (q : ByteArray) : (k = 6 \/ k = 7) -> LNm q -> GTc ⟨k, a, [q], 0, []⟩
 | both (a : Nat) (q : ByteArray) (e : Ex) : LNm q -> GX e -> GTc ⟨9, a, [q], 0, [e]⟩
 | ex (k a : Nat) (e : Ex) : (k = 2 \/ k = 3 \/ k = 8 \/ k = 11) -> GX e -> GTc ⟨k, a, [], 0, [e]⟩
 | num (a m : Nat) : m < 100 -> GTc ⟨10, a, [], m, []⟩
 | bare (k a : Nat) : (k = 4 \/ k = 5 \/ k = 12 \/ k = 13) -> GTc ⟨k, a, [], 0, []⟩
structure GCt (c : Ct) : Prop where
 nm : LNm c.nm
 ty : GX c.ty
structure GCm (c : Cm) : Prop where
 kd : 1 <= c.kd /\ c.kd <= 4
 nm : LNm c.nm
 ps : ∀ q ∈ c.ps, LNm q
 bs : ∀ b ∈ c.bs, GB b
 ty : GX c.ty
 vl : if c.kd = 2 \/ (c.kd = 3 /\ c.tac = false) then GX c.vl else c.vl = zeroX
 tac : c.tac = true -> c.kd = 3 /\ c.tcs ≠ []
 tcs : ∀ t ∈ c.tcs, GTc t
 none : c.tac = false -> c.tcs = []
 cts : ∀ k ∈ c.cts, GCt k
 some : c.cts ≠ [] -> c.kd = 4
theorem pz_wordNo_le (q : ByteArray) : ∀ (l : List ByteArray) (k : Nat), wordNo q l k = 0 \/ (k <= wordNo q l k /\ wordNo q l k < k + l.length)
 | [], k => .inl rfl
 | x :: l, k => by
   simp only [wordNo]
   split
   . exact .inr ⟨Nat.le_refl _, by simp⟩
   . rcases pz_wordNo_le q l (k + 1) with h | ⟨h1, h2⟩
     . exact .inl h
     . exact .inr ⟨by omega, by simp only [List.length_cons]; omega⟩
section
variable {s : ByteArray}
theorem moreN_good : ∀ (k : Nat) (l : List ByteArray), (∀ x ∈ l, LNm x) -> ∀ st, st.Sd s -> (moreN s k l st).2.code = 0 -> ∀ x ∈ (moreN s k l st).1, LNm x
 | 0, _, hl => fun _ _ _ => hl
 | k + 1, l, hl => fun st h hc => by
   have hd : Sn s st (st.name s).2 := (Sn.refl h).name
   simp only [moreN] at hc ⊢
   split at hc
   . rename_i h1
     rw [if_pos h1]; refine moreN_good k _ (fun x hx => ?_) _ hd.ok hc
     rcases List.mem_append.1 hx with hx | hx
     . exact hl x hx
     . rw [List.mem_singleton.1 hx]
       exact (name_ok h ((moreN_sfw k _).back hd.ok hc)).1
   . rename_i h1
     rw [if_neg h1]; exact hl
theorem moreN_head : ∀ (k : Nat) (q : ByteArray) (l : List ByteArray) (st : FS), ∃ r, (moreN s k (q :: l) st).1 = q :: r
 | 0, _, l, _ => ⟨l, rfl⟩
 | k + 1, q, l, st => by
   simp only [moreN]
   split
   . exact moreN_head k q _ _
   . exact ⟨l, rfl⟩
theorem commasN_good : ∀ (k : Nat) (l : List ByteArray), (∀ x ∈ l, LNm x) -> ∀ st, st.Sd s -> (commasN s k l st).2.code = 0 -> ∀ x ∈ (commasN s k l st).1, LNm x
 | 0, _, hl => fun _ _ _ => hl
 | k + 1, l, hl => fun st h hc => by
   have hd : Sn s st ((st.step s).name s).2 := (Sn.refl h).step.name
   simp only [commasN] at hc ⊢
   split at hc
   . rename_i h1
     rw [if_pos h1]; refine commasN_good k _ (fun x hx => ?_) _ hd.ok hc
     rcases List.mem_append.1 hx with hx | hx
     . exact hl x hx
     . rw [List.mem_singleton.1 hx]
       exact (name_ok h.step ((commasN_sfw k _).back hd.ok hc)).1
   . rename_i h1
     rw [if_neg h1]; exact hl
theorem paramsF_good (n : Nat) (st : FS) (h : st.Sd s) (hc : (paramsF s n st).2.code = 0) : ∀ q ∈ (paramsF s n st).1, LNm q := by
 unfold paramsF at hc ⊢
 simp only at hc ⊢
 split at hc
 . rename_i h1
   rw [if_pos h1]; have hd : Sn s st ((st.step s).name s).2 := (Sn.refl h).step.name; have c1 := (must_ok hc).2; refine commasN_good n _ (fun x hx => ?_) _ hd.ok c1; rw [List.mem_singleton.1 hx]
   exact (name_ok h.step ((commasN_sfw n _).back hd.ok c1)).1
 . rename_i h1
   rw [if_neg h1]; exact fun q hq => absurd hq (by simp)
theorem tacticF_good (n : Nat) (st : FS) (h : st.Sd s) (hl : st.left s < 2 * (n + 1)) (hc : (tacticF s n st).2.code = 0) : GTc (tacticF s n st).1 := by
 have d1 : Sn s st (st.step s) := (Sn.refl h).step; have hE := exprN_good (s := s) n; unfold tacticF at hc ⊢
 simp only at hc ⊢
 have hk : (if st.kin 1 = true then wordNo st.t.t tacWords 1 else 0) <= 13 /\ ((if st.kin 1 = true then wordNo st.t.t tacWords 1 else 0) ≠ 0 -> (st.step s).left s < 2 * n) := by
  split
  . rename_i h1
    have := kin_left h h1 (by omega) (by omega); refine ⟨?_, fun _ => by omega⟩
    rcases pz_wordNo_le st.t.t tacWords 1 with h2 | ⟨_, h2⟩
    . omega
    . have : tacWords.length = 13 := rfl
      omega
  . exact ⟨by omega, fun h0 => absurd rfl h0⟩
 generalize (if st.kin 1 = true then wordNo st.t.t tacWords 1 else 0) = k at hc hk ⊢; obtain ⟨k13, hk0⟩ := hk
 split at hc
 . exact absurd hc FS.fail_code
 rename_i h0; rw [if_neg h0]; have hl1 := hk0 h0
 split at hc
 . rename_i h1
   rw [if_pos h1]; have d2 := d1.name; have c2 := (moreN_sfw n _).back d2.ok hc; have hq := (name_ok d1.ok c2).1
   have hg := moreN_good n [((st.step s).name s).1] (fun x hx => by rw [List.mem_singleton.1 hx]; exact hq) _ d2.ok hc; obtain ⟨r, hr⟩ := moreN_head (s := s) n ((st.step s).name s).1 [] ((st.step s).name s).2
   rw [hr] at hg ⊢; subst h1; exact .intro _ _ _ (hg _ (by simp)) fun x hx => hg x (by simp [hx])
 rename_i h1; rw [if_neg h1]
 split at hc
 . rename_i h2
   rw [if_pos h2]; exact .one _ _ _ h2 (name_ok d1.ok hc).1
 rename_i h2; rw [if_neg h2]
 split at hc
 . rename_i h3
   rw [if_pos h3]; have d2 := d1.name.must (q := sColon); have c2 := (must_ok ((exprN_sfw n).back d2.ok hc)).2
   have l2 : (((st.step s).name s).2.must s sColon).left s <= (st.step s).left s := ((Sn.refl d1.ok).name.must).left; subst h3; exact .both _ _ _ (name_ok d1.ok c2).1 (hE _ d2.ok (by omega) hc)
 rename_i h3; rw [if_neg h3]
 split at hc
 . rename_i h4
   rw [if_pos h4]; exact .ex _ _ _ h4 (hE _ d1.ok hl1 hc)
 rename_i h4; rw [if_neg h4]
 split at hc
 . rename_i h5
   rw [if_pos h5]; subst h5
   split at hc
   . rename_i h6
     rw [if_pos h6]; obtain ⟨h7, h8⟩ := FS.kin_kd h6; exact .num _ _ (d1.ok.num h7 h8)
   . exact absurd hc FS.fail_code
 . rename_i h5
   rw [if_neg h5]; exact .bare _ _ (by omega)
theorem tacticsN_good (n : Nat) : ∀ (k : Nat) (l : List Tc), (∀ t ∈ l, GTc t) -> ∀ st, st.Sd s -> st.left s < 2 * (n + 1) -> (tacticsN s n k l st).2.code = 0 -> ∀ t ∈ (tacticsN s n k l st).1, GTc t
 | 0, _, hb => fun _ _ _ _ => hb
 | k + 1, l, hb => fun st h hl hc => by
   simp only [tacticsN] at hc ⊢
   split at hc
   . rename_i h1
     rw [if_pos h1]; have hd := (tacticF_sfw n).sn (Sn.refl h).step; have l1 := ((Sn.refl h).step).left; have l2 := hd.left; refine tacticsN_good n k _ (fun t ht => ?_) _ hd.ok (by omega) hc
     rcases List.mem_append.1 ht with ht | ht
     . exact hb t ht
     . rw [List.mem_singleton.1 ht]
       exact tacticF_good n _ h.step (by omega) ((tacticsN_sfw n k _).back hd.ok hc)
   . rename_i h1
     rw [if_neg h1]; exact hb
theorem tacticsN_some (n : Nat) : ∀ (k : Nat) (l : List Tc) (st : FS), l ≠ [] -> (tacticsN s n k l st).1 ≠ []
 | 0, _, _, h => h
 | k + 1, l, st, h => by
   simp only [tacticsN]
   split
   . exact tacticsN_some n k _ _ (by simp)
   . exact h
theorem ctorF_good (n : Nat) (st : FS) (h : st.Sd s) (hl : st.left s < 2 * (n + 1)) (hc : (ctorF s n st).2.code = 0) : GCt (ctorF s n st).1 := by
 unfold ctorF at hc ⊢
 simp only at hc ⊢
 have d1 : Sn s st ((st.name s).2.must s sColon) := (Sn.refl h).name.must; have c1 := (must_ok ((exprN_sfw n).back d1.ok hc)).2; obtain ⟨h1, h2, h3⟩ := name_ok h c1
 have l1 : ((st.name s).2.must s sColon).left s <= (st.name s).2.left s := ((Sn.refl (Sn.refl h).name.ok).must).left; exact ⟨h1, exprN_good n _ d1.ok (by omega) hc⟩
theorem ctorsN_good (n : Nat) : ∀ (k : Nat) (l : List Ct), (∀ t ∈ l, GCt t) -> ∀ st, st.Sd s -> st.left s < 2 * (n + 1) -> (ctorsN s n k l st).2.code = 0 -> ∀ t ∈ (ctorsN s n k l st).1, GCt t
 | 0, _, hb => fun _ _ _ _ => hb
 | k + 1, l, hb => fun st h hl hc => by
   simp only [ctorsN] at hc ⊢
   split at hc
   . rename_i h1
     rw [if_pos h1]; have hd := (ctorF_sfw n).sn (Sn.refl h).step; have l1 := ((Sn.refl h).step).left; have l2 := hd.left; refine ctorsN_good n k _ (fun t ht => ?_) _ hd.ok (by omega) hc
     rcases List.mem_append.1 ht with ht | ht
     . exact hb t ht
     . rw [List.mem_singleton.1 ht]
       exact ctorF_good n _ h.step (by omega) ((ctorsN_sfw n k _).back hd.ok hc)
   . rename_i h1
     rw [if_neg h1]; exact hb
theorem commandF_good (n : Nat) (st : FS) (h : st.Sd s) (hl : st.left s < 2 * (n + 1)) (hc : (commandF s n st).2.code = 0) : GCm (commandF s n st).1 := by
 have hE := exprN_good (s := s) n; have hF := exprN_sfw (s := s) n; unfold commandF at hc ⊢
 simp only at hc ⊢
 have hk : (if st.kin 3 = true then wordNo st.t.t kindWords 1 else 0) <= 4 /\ ((if st.kin 3 = true then wordNo st.t.t kindWords 1 else 0) ≠ 0 -> (st.step s).left s < 2 * n) := by
  split
  . rename_i h1
    have := kin_left h h1 (by omega) (by omega); refine ⟨?_, fun _ => by omega⟩
    rcases pz_wordNo_le st.t.t kindWords 1 with h2 | ⟨_, h2⟩
    . omega
    . have : kindWords.length = 4 := rfl
      omega
  . exact ⟨by omega, fun h0 => absurd rfl h0⟩
 generalize (if st.kin 3 = true then wordNo st.t.t kindWords 1 else 0) = k at hc hk ⊢; obtain ⟨k4, hk0⟩ := hk
 split at hc
 . exact absurd hc FS.fail_code
 rename_i h0; rw [if_neg h0]; have hl1 := hk0 h0; have d0 : (st.step s).Sd s := h.step; generalize st.step s = u at hc hl1 d0 ⊢; have d1 : Sn s u (u.name s).2 := (Sn.refl d0).name; have d2 := (paramsF_sfw n).sn d1
 have d3 := (groupsN_sfw (n := n) hF n []).sn d2; have d4 := d3.must (q := sColon); have d5 := hF.sn d4; have l2 := d2.left; have l4 := d4.left; have l5 := d5.left
 have base : (exprN s n ((groupsN s n (exprN s n) n [] (paramsF s n (u.name s).2).2).2.must s sColon)).2.code = 0 -> LNm (u.name s).1 /\ (∀ q ∈ (paramsF s n (u.name s).2).1, LNm q) /\ (∀ b ∈ (groupsN s n (exprN s n) n [] (paramsF s n (u.name s).2).2).1, GB b) /\ GX (exprN s n ((groupsN s n (exprN s n) n [] (paramsF s n (u.name s).2).2).2.must s sColon)).1 := fun c5 => by
  have c3 := (must_ok (hF.back d4.ok c5)).2; have c2 := (groupsN_sfw hF n []).back d2.ok c3; have c1 := (paramsF_sfw n).back d1.ok c2
  exact ⟨(name_ok d0 c1).1, paramsF_good n _ d1.ok c2, groupsN_good hE hF n [] (fun x hx => absurd hx (by simp)) _ d2.ok (by omega) c3, hE _ d4.ok (by omega) c5⟩
 generalize exprN s n ((groupsN s n (exprN s n) n [] (paramsF s n (u.name s).2).2).2.must s sColon) = t at hc d5 l5 base ⊢
 split at hc
 . rename_i h1
   rw [if_pos h1]; have dv := hF.sn (d5.must (q := sBe)); have lv := (d5.must (q := sBe)).left; have cv := (must_ok hc).2; have c5 := (must_ok (hF.back d5.must.ok cv)).2; obtain ⟨b1, b2, b3, b4⟩ := base c5
   refine ⟨⟨by simp only; omega, by simp only; omega⟩, b1, b2, b3, b4, ?_, fun x => by simp at x, fun x hx => absurd hx (by simp), fun _ => rfl, fun x hx => absurd hx (by simp), fun x => absurd rfl x⟩
   rw [if_pos (h1.imp id fun x => ⟨x.1, rfl⟩)]; exact hE _ d5.must.ok (by omega) cv
 rename_i h1; rw [if_neg h1]
 split at hc
 . rename_i h2
   rw [if_pos h2]; have dx := (tacticF_sfw n).sn d5.step; have lx := dx.left; have ls := d5.step.left; have cl := (must_ok hc).2; have cx := (tacticsN_sfw n n _).back dx.ok cl
   have c5 := step_back ((tacticF_sfw n).back d5.step.ok cx); obtain ⟨b1, b2, b3, b4⟩ := base c5; have hx := tacticF_good n _ d5.step.ok (by omega) cx
   refine ⟨⟨by simp only; omega, by simp only; omega⟩, b1, b2, b3, b4, ?_, fun _ => ⟨h2, tacticsN_some n n _ _ (by simp)⟩, tacticsN_good n n _ (fun x hx' => by rw [List.mem_singleton.1 hx']; exact hx) _ dx.ok (by omega) cl, fun x => by simp at x, fun x hx => absurd hx (by simp), fun x => absurd rfl x⟩
   rw [if_neg (by simp only; simp; omega)]
 rename_i h2; rw [if_neg h2]
 split at hc
 . rename_i h3
   rw [if_pos h3]; have cl := (must_ok hc).2; have c5 := (ctorsN_sfw n n _).back d5.ok cl; obtain ⟨b1, b2, b3, b4⟩ := base c5
   refine ⟨⟨by simp only; omega, by simp only; omega⟩, b1, b2, b3, b4, ?_, fun x => by simp at x, fun x hx => absurd hx (by simp), fun _ => rfl, ctorsN_good n n _ (fun x hx => absurd hx (by simp)) _ d5.ok (by omega) cl, fun _ => h3⟩
   rw [if_neg (by simp only; omega)]
 . rename_i h3
   rw [if_neg h3]; obtain ⟨b1, b2, b3, b4⟩ := base (must_ok hc).2
   refine ⟨⟨by simp only; omega, by simp only; omega⟩, b1, b2, b3, b4, ?_, fun x => by simp at x, fun x hx => absurd hx (by simp), fun _ => rfl, fun x hx => absurd hx (by simp), fun x => absurd rfl x⟩
   rw [if_neg (by simp only; omega)]
theorem commandsN_good (n : Nat) : ∀ (k : Nat) (l : List Cm), (∀ t ∈ l, GCm t) -> ∀ st, st.Sd s -> st.left s < 2 * (n + 1) -> (commandsN s n k l st).2.code = 0 -> ∀ t ∈ (commandsN s n k l st).1, GCm t
 | 0, _, hb => fun _ _ _ _ => hb
 | k + 1, l, hb => fun st h hl hc => by
   simp only [commandsN] at hc ⊢
   split at hc
   . rename_i h1
     rw [if_pos h1]; have hd := commandF_sfw n st h; have l2 := hd.left; refine commandsN_good n k _ (fun t ht => ?_) _ hd.ok (by omega) hc
     rcases List.mem_append.1 ht with ht | ht
     . exact hb t ht
     . rw [List.mem_singleton.1 ht]
       exact commandF_good n _ h hl ((commandsN_sfw n k _).back hd.ok hc)
   . rename_i h1
     rw [if_neg h1]; exact hb
end
theorem start_sd (s : ByteArray) : (FS.step s ⟨⟨0, ⟨#[]⟩, 0⟩, 0, 0, 0⟩).Sd s := by
 have e : FS.step s ⟨⟨0, ⟨#[]⟩, 0⟩, 0, 0, 0⟩ = ⟨(lex s 0).1, (lex s 0).2, 0, 0⟩ := rfl; rw [e]
 exact ⟨⟨⟨0, lex_fit (Nat.zero_le _)⟩, by simp⟩, fun _ hk => lex_lnm (Nat.zero_le _) hk, fun _ hk => lex_few (Nat.zero_le _) hk⟩
theorem left_le (s : ByteArray) (st : FS) : st.left s < 2 * (s.size + 1) := by
 unfold FS.left
 split <;> omega
theorem textF_good (s : ByteArray) (hc : (textF s).2.code = 0) : ∀ c ∈ (textF s).1, GCm c :=
 commandsN_good (s.size + 1) (s.size + 1) [] (fun x hx => absurd hx (by simp)) _ (start_sd s) (by have := left_le s (FS.step s ⟨⟨0, ⟨#[]⟩, 0⟩, 0, 0, 0⟩); omega) hc
end Go.Proofs.YtockffblncdikaaGreatDoor
