/- The language's reader with more fuel than is left reads the same: tactics, commands. No walk. -/
import Derived.Test.YtockffblncdikaaGreatDoorGy
namespace Go.Proofs.YtockffblncdikaaGreatDoor
open Go.RowKit
set_option maxRecDepth 100000
set_option maxHeartbeats 16000000
def Ag {α : Type} (s : ByteArray) (E E' : FS -> α × FS) (B : Nat) : Prop := ∀ st, st.Sd s -> st.left s < B -> E st = E' st
section
variable {s : ByteArray}
theorem plusN_ag : ∀ (m m' : Nat) (l : LvB) (st : FS), st.Sd s -> st.left s < 2 * m -> st.left s < 2 * m' -> plusN s m l st = plusN s m' l st
 | 0, _, _, _ => fun _ h1 _ => absurd h1 (by omega)
 | _ + 1, 0, _, _ => fun _ _ h2 => absurd h2 (by omega)
 | m + 1, m' + 1, l, st => fun h h1 h2 => by
   simp only [plusN]
   split
   . rename_i hx
     have hl := is_left h hx; have hd : Sn s (st.step s) (raised s l (st.step s)).2 := (Sn.refl h.step).raised; have := hd.left; exact plusN_ag m m' _ _ hd.ok (by omega) (by omega)
   . rfl
theorem latomF_ag {L L' : FS -> LvB × FS} {B : Nat} (hA : Ag s L L' B) : Ag s (latomF s L) (latomF s L') (B + 2) := fun st h hl => by
 unfold latomF
 by_cases h3 : st.is sOpen = true
 . have := is_left h h3
   rw [hA _ h.step (by omega)]
 . rw [if_neg h3, if_neg h3]
theorem levelF_ag {L L' : FS -> LvB × FS} {B m m' : Nat} (hA : Ag s L L' B) (hF : Sfw s L) (st : FS) (h : st.Sd s) (hl : st.left s < B + 2) (h1 : st.left s < 2 * m) (h2 : st.left s < 2 * m') : levelF s L m st = levelF s L' m' st := by
 have d1 := latomF_sfw hF st h; have hp := plusN_ag m m' (latomF s L st).1 _ d1.ok (by have := d1.left; omega) (by have := d1.left; omega); have d2 := latomF_sfw hF _ h.step; have l1 := (Sn.refl h).step.left
 have l2 := d2.left; unfold levelF twoF; rw [<- latomF_ag hA st h hl, <- latomF_ag hA _ h.step (by omega), <- latomF_ag hA _ d2.ok (by omega), hp]
theorem levelN_ag : ∀ (n m : Nat) (st : FS), st.Sd s -> st.left s < 2 * n -> st.left s < 2 * m -> levelN s n st = levelN s m st
 | 0, _, _ => fun _ h1 _ => absurd h1 (by omega)
 | _ + 1, 0, _ => fun _ _ h2 => absurd h2 (by omega)
 | n + 1, m + 1, st => fun h h1 h2 => levelF_ag (B := min (2 * n) (2 * m)) (fun st h hl => levelN_ag n m st h (by omega) (by omega)) (levelN_sfw n) st h (by omega) h1 h2
theorem latomN_ag (n m : Nat) (st : FS) (h : st.Sd s) (h1 : st.left s < 2 * n) (h2 : st.left s < 2 * m) : latomN s n st = latomN s m st :=
 latomF_ag (B := min (2 * n) (2 * m)) (fun st h hl => levelN_ag n m st h (by omega) (by omega)) st h (by omega)
theorem levelsN_ag (n n' : Nat) : ∀ (m m' : Nat) (ls : List LvB) (st : FS), st.Sd s -> st.left s < 2 * m -> st.left s < 2 * m' -> st.left s < 2 * n -> st.left s < 2 * n' -> levelsN s n m ls st = levelsN s n' m' ls st
 | 0, _, _, _ => fun _ h1 _ _ _ => absurd h1 (by omega)
 | _ + 1, 0, _, _ => fun _ _ h2 _ _ => absurd h2 (by omega)
 | m + 1, m' + 1, ls, st => fun h h1 h2 h3 h4 => by
   simp only [levelsN]
   split
   . rename_i hx
     have hl := is_left h hx; have e := levelN_ag n n' _ h.step (by omega) (by omega); rw [<- e]; have hd := levelN_sfw n _ h.step; have := hd.left
     exact levelsN_ag n n' m m' _ _ hd.ok (by omega) (by omega) (by omega) (by omega)
   . rfl
theorem no_is {st : FS} (hc : st.code ≠ 0) (q : ByteArray) : ¬ st.is q = true := fun h => hc (FS.is_kd h).1
theorem no_kin {st : FS} (hc : st.code ≠ 0) (k : Nat) : ¬ st.kin k = true := fun h => hc (FS.kin_kd h).1
theorem nameX_ag (n m a : Nat) (ex : Bool) (st : FS) (h : st.Sd s) (h1 : st.left s < 2 * n + 2) (h2 : st.left s < 2 * m + 2) : nameX s n a ex st = nameX s m a ex st := by
 have d1 : Sn s st (st.name s).2 := (Sn.refl h).name; have d2 := d1.step; have d3 := (levelN_sfw n).sn d2; have l2 : ((st.name s).2.step s).left s <= (st.name s).2.left s := ((Sn.refl d1.ok).step).left
 have l3 : (levelN s n ((st.name s).2.step s)).2.left s <= ((st.name s).2.step s).left s := (levelN_sfw n _ d2.ok).left; unfold nameX
 simp only
 by_cases hc : (st.name s).2.code = 0
 . have := (name_ok h hc).2.2
   rw [<- levelN_ag n m _ d2.ok (by omega) (by omega), levelsN_ag n m n m _ _ d3.ok (by omega) (by omega) (by omega) (by omega)]
 . rw [if_neg (no_is hc _), if_neg (no_is hc _)]
variable {E E' : FS -> Ex × FS} {B n n' : Nat}
theorem bracketX_ag (hA : Ag s E E' B) (hF : Sfw s E) (a : Nat) : Ag s (bracketX s E a) (bracketX s E' a) B := fun st h hl => by
 have d1 := hF st h; have l1 := d1.step.left; unfold bracketX
 simp only
 rw [<- hA st h hl, <- hA _ d1.step.ok (by omega)]
theorem atomF_ag (hA : Ag s E E' B) (hF : Sfw s E) (st : FS) (h : st.Sd s) (hl : st.left s < B + 2) (h1 : st.left s < 2 * n + 2) (h2 : st.left s < 2 * n' + 2) : atomF s n E st = atomF s n' E' st := by
 have l1 := (Sn.refl h).step.left; unfold atomF; rw [nameX_ag n n' _ _ st h h1 h2, nameX_ag n n' _ _ _ h.step (by omega) (by omega)]
 by_cases h6 : st.is wSort = true
 . have := is_left h h6
   have e : ∀ q, wSort ≠ q -> ¬ st.is q = true := fun q hq hx => hq ((FS.is_kd h6).2.2.symm.trans (FS.is_kd hx).2.2)
   rw [latomN_ag n n' _ h.step (by omega) (by omega), if_neg (e sOpen (by decide)), if_neg (e sOpen (by decide))]
 by_cases h7 : st.is sOpen = true
 . have := is_left h h7
   rw [bracketX_ag hA hF _ _ h.step (by omega), if_neg h6, if_neg h6]
 . rw [if_neg h7, if_neg h7, if_neg h6, if_neg h6]
theorem no_begins {st : FS} (hc : st.code ≠ 0) : ¬ begins st = true := fun h => by
 unfold begins at h
 simp only [Bool.or_eq_true] at h
 rcases h with (((((h | h) | h) | h) | h) | h) | h
 . exact no_kin hc _ h
 all_goals exact no_is hc _ h
theorem nameX_left (n a : Nat) (ex : Bool) {st : FS} (h : st.Sd s) (hc : (nameX s n a ex st).2.code = 0) : (nameX s n a ex st).2.left s + 2 <= st.left s := by
 have d1 : Sn s st (st.name s).2 := (Sn.refl h).name
 have hx : Sn s (st.name s).2 (nameX s n a ex st).2 := by
  unfold nameX
  simp only
  split
  . exact ((levelsN_sfw n n _).sn ((levelN_sfw n).sn (Sn.refl d1.ok).step)).must
  . exact Sn.refl d1.ok
 have := (name_ok h (hx.back hc)).2.2; have := hx.left; omega
theorem atomF_left (hF : Sfw s E) {st : FS} (h : st.Sd s) (hc : (atomF s n E st).2.code = 0) : (atomF s n E st).2.left s + 2 <= st.left s := by
 have key : ∀ q, st.is q = true -> Sn s (st.step s) (atomF s n E st).2 -> (atomF s n E st).2.left s + 2 <= st.left s := fun q hq hs => by
  have := is_left h hq; have := hs.left; omega
 by_cases h1 : st.kin 1 = true
 . have e : atomF s n E st = nameX s n st.t.at_ false st := by unfold atomF; rw [if_pos h1]
   rw [e] at hc ⊢; exact nameX_left _ _ _ h hc
 by_cases h2 : st.is sAt = true
 . refine key _ h2 ?_
   unfold atomF; rw [if_neg h1, if_pos h2]; exact nameX_sfw _ _ _ _ h.step
 by_cases h3 : st.is sHole = true
 . refine key _ h3 ?_
   unfold atomF; rw [if_neg h1, if_neg h2, if_pos h3]; exact Sn.refl h.step
 by_cases h4 : st.is wProp = true
 . refine key _ h4 ?_
   unfold atomF; rw [if_neg h1, if_neg h2, if_neg h3, if_pos h4]; exact Sn.refl h.step
 by_cases h5 : st.is wType = true
 . refine key _ h5 ?_
   unfold atomF; rw [if_neg h1, if_neg h2, if_neg h3, if_neg h4, if_pos h5]
   split
   . exact (Sn.refl h.step).raised
   . exact Sn.refl h.step
 by_cases h6 : st.is wSort = true
 . refine key _ h6 ?_
   unfold atomF; rw [if_neg h1, if_neg h2, if_neg h3, if_neg h4, if_neg h5, if_pos h6]; exact latomN_sfw n _ h.step
 by_cases h7 : st.is sOpen = true
 . refine key _ h7 ?_
   unfold atomF; rw [if_neg h1, if_neg h2, if_neg h3, if_neg h4, if_neg h5, if_neg h6, if_pos h7]; exact bracketX_sfw hF _ _ h.step
 . unfold atomF at hc
   rw [if_neg h1, if_neg h2, if_neg h3, if_neg h4, if_neg h5, if_neg h6, if_neg h7] at hc; exact absurd hc FS.fail_code
theorem apply_none {st : FS} (hc : st.code ≠ 0) (k : Nat) (e : Ex) (E : FS -> Ex × FS) (n : Nat) : applyN s n E k e st = (e, st) := pz_apply_stop (by simpa using no_begins hc) E n k e
theorem applyN_ag (hA : Ag s E E' B) (hF : Sfw s E) : ∀ (k k' : Nat) (e : Ex) (st : FS), st.Sd s -> st.left s < B + 2 -> st.left s < 2 * n + 2 -> st.left s < 2 * n' + 2 -> st.left s < 2 * k -> st.left s < 2 * k' -> applyN s n E k e st = applyN s n' E' k' e st
 | 0, _, _, _ => fun _ _ _ _ h1 _ => absurd h1 (by omega)
 | _ + 1, 0, _, _ => fun _ _ _ _ _ h2 => absurd h2 (by omega)
 | k + 1, k' + 1, e, st => fun h hl h1 h2 h3 h4 => by
   simp only [applyN]
   split
   . rw [<- atomF_ag hA hF st h hl h1 h2]
     have hd := atomF_sfw (n := n) hF st h
     by_cases hc : (atomF s n E st).2.code = 0
     . have := atomF_left (n := n) hF h hc
       exact applyN_ag hA hF k k' _ _ hd.ok (by omega) (by omega) (by omega) (by omega) (by omega)
     . rw [apply_none hc, apply_none hc]
   . rfl
theorem applyF_ag (hA : Ag s E E' B) (hF : Sfw s E) (st : FS) (h : st.Sd s) (hl : st.left s < B + 2) (h1 : st.left s < 2 * n + 2) (h2 : st.left s < 2 * n' + 2) : applyF s n E st = applyF s n' E' st := by
 have hd := atomF_sfw (n := n) hF st h; have := hd.left; unfold applyF; rw [<- atomF_ag hA hF st h hl h1 h2]
 by_cases hc : (atomF s n E st).2.code = 0
 . have := atomF_left (n := n) hF h hc
   exact applyN_ag hA hF n n' _ _ hd.ok (by omega) (by omega) (by omega) (by omega) (by omega)
 . rw [apply_none hc, apply_none hc]
theorem equalF_ag (hA : Ag s E E' B) (hF : Sfw s E) (st : FS) (h : st.Sd s) (hl : st.left s < B + 2) (h1 : st.left s < 2 * n + 2) (h2 : st.left s < 2 * n' + 2) : equalF s n E st = equalF s n' E' st := by
 have hd := (applyF_sfw (n := n) hF st h).step; have := hd.left; unfold equalF
 simp only
 rw [<- applyF_ag hA hF st h hl h1 h2, <- applyF_ag (n := n) (n' := n') hA hF _ hd.ok (by omega) (by omega) (by omega)]
theorem namesN_ag : ∀ (k k' : Nat) (l : List (ByteArray × Nat)) (st : FS), st.Sd s -> st.left s < 2 * k -> st.left s < 2 * k' -> namesN s k l st = namesN s k' l st
 | 0, _, _, _ => fun _ h1 _ => absurd h1 (by omega)
 | _ + 1, 0, _, _ => fun _ _ h2 => absurd h2 (by omega)
 | k + 1, k' + 1, l, st => fun h h1 h2 => by
   simp only [namesN]
   split
   . rename_i hx
     have := (name_ok h (FS.kin_kd hx).1).2.2; exact namesN_ag k k' _ _ (Sn.refl h).name.ok (by omega) (by omega)
   . rfl
theorem groupF_ag (hA : Ag s E E' B) (st : FS) (h : st.Sd s) (hl : st.left s < B) (h1 : st.left s < 2 * n + 2) (h2 : st.left s < 2 * n' + 2) : groupF s n E st = groupF s n' E' st := by
 have key : ∀ st1, Sn s st st1 -> namesN s (n + 1) [] st1 = namesN s (n' + 1) [] st1 /\ E ((namesN s (n + 1) [] st1).2.must s sColon) = E' ((namesN s (n + 1) [] st1).2.must s sColon) := fun st1 hd => by
  have l1 := hd.left; have d2 := ((namesN_sfw (n + 1) []).sn hd).must (q := sColon); have l2 := d2.left; exact ⟨namesN_ag _ _ _ _ hd.ok (by omega) (by omega), hA _ d2.ok (by omega)⟩
 unfold groupF
 simp only
 by_cases hb : st.is sBrace = true
 . simp only [if_pos hb]
   obtain ⟨e1, e2⟩ := key _ (Sn.refl h).step; rw [<- e1, <- e2]
 . simp only [if_neg hb]
   obtain ⟨e1, e2⟩ := key _ (Sn.refl h).must; rw [<- e1, <- e2]
theorem groupF_left (hF : Sfw s E) {st : FS} (h : st.Sd s) (hc : (groupF s n E st).2.code = 0) : (groupF s n E st).2.left s + 2 <= st.left s := by
 have key : ∀ (st1 : FS) (q : ByteArray), Sn s st st1 -> (st1.code = 0 -> st1.left s + 2 <= st.left s) -> ((E ((namesN s (n + 1) [] st1).2.must s sColon)).2.must s q).code = 0 -> ((E ((namesN s (n + 1) [] st1).2.must s sColon)).2.must s q).left s + 2 <= st.left s := fun st1 q hd hs hc => by
  have d2 : Sn s st1 ((E ((namesN s (n + 1) [] st1).2.must s sColon)).2.must s q) := (hF.sn ((namesN_sfw (n + 1) [] st1 hd.ok).must (q := sColon))).must; have := hs (d2.back hc); have := d2.left; omega
 unfold groupF at hc ⊢
 simp only at hc ⊢
 by_cases hb : st.is sBrace = true
 . simp only [if_pos hb] at hc ⊢
   exact key _ _ (Sn.refl h).step (fun _ => is_left h hb) hc
 . simp only [if_neg hb] at hc ⊢
   exact key _ _ (Sn.refl h).must (fun h0 => must_left h h0) hc
theorem groups_none {st : FS} (hc : st.code ≠ 0) (k : Nat) (l : List Bd) (E : FS -> Ex × FS) (n : Nat) : groupsN s n E k l st = (l, st) := by
 cases k with
 | zero => rfl
 | succ k =>
   simp only [groupsN]
   rw [if_neg (fun h => h.elim (no_is hc _) (no_is hc _))]
theorem funs_none {st : FS} (hc : st.code ≠ 0) (k : Nat) (l : List Bd) (E : FS -> Ex × FS) (n : Nat) : funsN s n E k l st = (l, st) := by
 cases k with
 | zero => rfl
 | succ k =>
   simp only [funsN]
   rw [if_neg (no_kin hc _), if_neg (fun h => h.elim (no_is hc _) (no_is hc _))]
theorem groupsN_ag (hA : Ag s E E' B) (hF : Sfw s E) : ∀ (k k' : Nat) (l : List Bd) (st : FS), st.Sd s -> st.left s < B -> st.left s < 2 * n + 2 -> st.left s < 2 * n' + 2 -> st.left s < 2 * k -> st.left s < 2 * k' -> groupsN s n E k l st = groupsN s n' E' k' l st
 | 0, _, _, _ => fun _ _ _ _ h1 _ => absurd h1 (by omega)
 | _ + 1, 0, _, _ => fun _ _ _ _ _ h2 => absurd h2 (by omega)
 | k + 1, k' + 1, l, st => fun h hl h1 h2 h3 h4 => by
   simp only [groupsN]
   split
   . rw [<- groupF_ag hA st h hl h1 h2]
     have hd := groupF_sfw (n := n) hF st h
     by_cases hc : (groupF s n E st).2.code = 0
     . have := groupF_left (n := n) hF h hc
       exact groupsN_ag hA hF k k' _ _ hd.ok (by omega) (by omega) (by omega) (by omega) (by omega)
     . rw [groups_none hc, groups_none hc]
   . rfl
theorem funsN_ag (hA : Ag s E E' B) (hF : Sfw s E) : ∀ (k k' : Nat) (l : List Bd) (st : FS), st.Sd s -> st.left s < B -> st.left s < 2 * n + 2 -> st.left s < 2 * n' + 2 -> st.left s < 2 * k -> st.left s < 2 * k' -> funsN s n E k l st = funsN s n' E' k' l st
 | 0, _, _, _ => fun _ _ _ _ h1 _ => absurd h1 (by omega)
 | _ + 1, 0, _, _ => fun _ _ _ _ _ h2 => absurd h2 (by omega)
 | k + 1, k' + 1, l, st => fun h hl h1 h2 h3 h4 => by
   simp only [funsN]
   split
   . have hd : Sn s st (st.name s).2 := (Sn.refl h).name
     by_cases hc : (st.name s).2.code = 0
     . have := (name_ok h hc).2.2
       exact funsN_ag hA hF k k' _ _ hd.ok (by omega) (by omega) (by omega) (by omega) (by omega)
     . rw [funs_none hc, funs_none hc]
   split
   . rw [<- groupF_ag hA st h hl h1 h2]
     have hd := groupF_sfw (n := n) hF st h
     by_cases hc : (groupF s n E st).2.code = 0
     . have := groupF_left (n := n) hF h hc
       exact funsN_ag hA hF k k' _ _ hd.ok (by omega) (by omega) (by omega) (by omega) (by omega)
     . rw [funs_none hc, funs_none hc]
   . rfl
theorem letX_ag (hA : Ag s E E' B) (hF : Sfw s E) : Ag s (letX s E) (letX s E') B := fun st h hl => by
 have d1 := (Sn.refl h).name.must (q := sColon); have d2 := (hF.sn d1).must (q := sBe); have d3 := (hF.sn d2).must (q := wIn); have l1 := d1.left; have l2 := d2.left; have l3 := d3.left; unfold letX
 simp only
 rw [<- hA _ d1.ok (by omega), <- hA _ d2.ok (by omega), <- hA _ d3.ok (by omega)]
theorem exprF_ag (hA : Ag s E E' B) (hF : Sfw s E) (st : FS) (h : st.Sd s) (hl : st.left s < B + 2) (h1 : st.left s < 2 * n + 2) (h2 : st.left s < 2 * n' + 2) : exprF s n E st = exprF s n' E' st := by
 unfold exprF
 simp only
 by_cases c1 : st.is wFun = true
 . have l0 := is_left h c1
   have d2 : Sn s st ((some1 (funsN s n E n [] (st.step s))).2.must s sTo) := (some1_sn ((funsN_sfw hF n []).sn (Sn.refl h).step)).must
   have l2 : ((some1 (funsN s n E n [] (st.step s))).2.must s sTo).left s <= (st.step s).left s := (some1_sn (funsN_sfw (n := n) hF n [] (st.step s) h.step)).must.left
   simp only [if_pos c1]
   rw [<- funsN_ag (n := n) (n' := n') hA hF n n' [] _ h.step (by omega) (by omega) (by omega) (by omega) (by omega), <- hA _ d2.ok (by omega)]
 simp only [if_neg c1]
 by_cases c2 : st.is wForall = true
 . have l0 := is_left h c2
   have d2 : Sn s st ((some1 (groupsN s n E n [] (st.step s))).2.must s sComma) := (some1_sn ((groupsN_sfw hF n []).sn (Sn.refl h).step)).must
   have l2 : ((some1 (groupsN s n E n [] (st.step s))).2.must s sComma).left s <= (st.step s).left s := (some1_sn (groupsN_sfw (n := n) hF n [] (st.step s) h.step)).must.left
   simp only [if_pos c2]
   rw [<- groupsN_ag (n := n) (n' := n') hA hF n n' [] _ h.step (by omega) (by omega) (by omega) (by omega) (by omega), <- hA _ d2.ok (by omega)]
 simp only [if_neg c2]
 by_cases c3 : st.is wLet = true
 . have l0 := is_left h c3
   simp only [if_pos c3]
   rw [<- letX_ag hA hF _ h.step (by omega)]
 simp only [if_neg c3]
 rw [<- equalF_ag hA hF st h hl h1 h2]; have d1 := equalF_sfw (n := n) hF st h
 by_cases c4 : (equalF s n E st).2.is sArrow = true
 . have l1 := is_left d1.ok c4
   have := d1.left
   simp only [if_pos c4]
   rw [<- hA _ d1.ok.step (by omega)]
 . simp only [if_neg c4]
theorem exprN_ag : ∀ (n m : Nat) (st : FS), st.Sd s -> st.left s < 2 * n -> st.left s < 2 * m -> exprN s n st = exprN s m st
 | 0, _, _ => fun _ h1 _ => absurd h1 (by omega)
 | _ + 1, 0, _ => fun _ _ h2 => absurd h2 (by omega)
 | n + 1, m + 1, st => fun h h1 h2 => exprF_ag (B := min (2 * n) (2 * m)) (fun st h hl => exprN_ag n m st h (by omega) (by omega)) (exprN_sfw n) st h (by omega) (by omega) (by omega)
end
section
variable {s : ByteArray}
theorem moreN_ag : ∀ (k k' : Nat) (l : List ByteArray) (st : FS), st.Sd s -> st.left s < 2 * k -> st.left s < 2 * k' -> moreN s k l st = moreN s k' l st
 | 0, _, _, _ => fun _ h1 _ => absurd h1 (by omega)
 | _ + 1, 0, _, _ => fun _ _ h2 => absurd h2 (by omega)
 | k + 1, k' + 1, l, st => fun h h1 h2 => by
   simp only [moreN]
   split
   . rename_i hx
     have := kin_left h hx (by omega) (by omega); have e : (st.name s).2 = st.step s := by unfold FS.name; rw [if_pos hx]
     rw [e]; exact moreN_ag k k' _ _ h.step (by omega) (by omega)
   . rfl
theorem commasN_ag : ∀ (k k' : Nat) (l : List ByteArray) (st : FS), st.Sd s -> st.left s < 2 * k -> st.left s < 2 * k' -> commasN s k l st = commasN s k' l st
 | 0, _, _, _ => fun _ h1 _ => absurd h1 (by omega)
 | _ + 1, 0, _, _ => fun _ _ h2 => absurd h2 (by omega)
 | k + 1, k' + 1, l, st => fun h h1 h2 => by
   simp only [commasN]
   split
   . rename_i hx
     have := is_left h hx; have l2 := (Sn.refl h.step).name.left; exact commasN_ag k k' _ _ (Sn.refl h).step.name.ok (by omega) (by omega)
   . rfl
theorem paramsF_ag (n m : Nat) (st : FS) (h : st.Sd s) (h1 : st.left s < 2 * n) (h2 : st.left s < 2 * m) : paramsF s n st = paramsF s m st := by
 have d := (Sn.refl h).step.name; have := d.left; unfold paramsF
 simp only
 rw [commasN_ag n m _ _ d.ok (by omega) (by omega)]
theorem tacticF_ag (n m : Nat) (st : FS) (h : st.Sd s) (h1 : st.left s < 2 * n) (h2 : st.left s < 2 * m) : tacticF s n st = tacticF s m st := by
 have d1 := (Sn.refl h).step; have d2 := d1.name; have d3 := d2.must (q := sColon); have l1 := d1.left; have l2 := d2.left; have l3 := d3.left; unfold tacticF
 simp only
 rw [moreN_ag n m _ _ d2.ok (by omega) (by omega), exprN_ag n m _ d3.ok (by omega) (by omega), exprN_ag n m _ d1.ok (by omega) (by omega)]
theorem tacticF_left (n : Nat) {st : FS} (h : st.Sd s) (hc : (tacticF s n st).2.code = 0) : (tacticF s n st).2.left s + 2 <= st.left s := by
 have hs : st.kin 1 = true := by
  refine Classical.byContradiction fun hx => ?_
  unfold tacticF at hc
  simp only [if_neg hx, if_true] at hc
  exact FS.fail_code hc
 have hl := kin_left h hs (by omega) (by omega)
 have hd : Sn s (st.step s) (tacticF s n st).2 := by
  have d0 : Sn s (st.step s) (st.step s) := Sn.refl h.step
  have h0 : ¬ (if st.kin 1 = true then wordNo st.t.t tacWords 1 else 0) = 0 := fun hx => by
   unfold tacticF at hc
   simp only [hx, if_true] at hc
   exact FS.fail_code hc
  unfold tacticF
  simp only
  generalize (if st.kin 1 = true then wordNo st.t.t tacWords 1 else 0) = k at h0; rw [if_neg h0]
  split
  . exact (moreN_sfw n _).sn d0.name
  split
  . exact d0.name
  split
  . exact (exprN_sfw n).sn d0.name.must
  split
  . exact (exprN_sfw n).sn d0
  split
  . split
    . exact d0.step
    . exact d0.fail
  . exact d0
 have := hd.left; omega
theorem tacticsN_ag (n m : Nat) : ∀ (k k' : Nat) (l : List Tc) (st : FS), st.Sd s -> st.left s < 2 * n -> st.left s < 2 * m -> st.left s < 2 * k -> st.left s < 2 * k' -> tacticsN s n k l st = tacticsN s m k' l st
 | 0, _, _, _ => fun _ _ _ h1 _ => absurd h1 (by omega)
 | _ + 1, 0, _, _ => fun _ _ _ _ h2 => absurd h2 (by omega)
 | k + 1, k' + 1, l, st => fun h h1 h2 h3 h4 => by
   simp only [tacticsN]
   split
   . rename_i hx
     have := is_left h hx; rw [<- tacticF_ag n m _ h.step (by omega) (by omega)]; have hd := tacticF_sfw n _ h.step; have := hd.left; exact tacticsN_ag n m k k' _ _ hd.ok (by omega) (by omega) (by omega) (by omega)
   . rfl
theorem ctorF_ag (n m : Nat) (st : FS) (h : st.Sd s) (h1 : st.left s < 2 * n) (h2 : st.left s < 2 * m) : ctorF s n st = ctorF s m st := by
 have d := (Sn.refl h).name.must (q := sColon); have := d.left; unfold ctorF
 simp only
 rw [exprN_ag n m _ d.ok (by omega) (by omega)]
theorem ctorsN_ag (n m : Nat) : ∀ (k k' : Nat) (l : List Ct) (st : FS), st.Sd s -> st.left s < 2 * n -> st.left s < 2 * m -> st.left s < 2 * k -> st.left s < 2 * k' -> ctorsN s n k l st = ctorsN s m k' l st
 | 0, _, _, _ => fun _ _ _ h1 _ => absurd h1 (by omega)
 | _ + 1, 0, _, _ => fun _ _ _ _ h2 => absurd h2 (by omega)
 | k + 1, k' + 1, l, st => fun h h1 h2 h3 h4 => by
   simp only [ctorsN]
   split
   . rename_i hx
     have := is_left h hx; rw [<- ctorF_ag n m _ h.step (by omega) (by omega)]; have hd := ctorF_sfw n _ h.step; have := hd.left; exact ctorsN_ag n m k k' _ _ hd.ok (by omega) (by omega) (by omega) (by omega)
   . rfl
theorem commandF_ag (n m : Nat) (st : FS) (h : st.Sd s) (h1 : st.left s < 2 * n) (h2 : st.left s < 2 * m) : commandF s n st = commandF s m st := by
 have d1 := (Sn.refl h).step.name; have d2 := (paramsF_sfw n).sn d1; have d3 := (groupsN_sfw (n := n) (exprN_sfw n) n []).sn d2; have d4 := d3.must (q := sColon); have d5 := (exprN_sfw n).sn d4
 have d6 := d5.must (q := sBe); have d7 := (tacticF_sfw n).sn d5.step; have d8 := d5.step; have l1 := d1.left; have l2 := d2.left; have l4 := d4.left; have l5 := d5.left; have l6 := d6.left; have l7 := d7.left
 have l8 := d8.left; have hA : Ag s (exprN s n) (exprN s m) (min (2 * n) (2 * m)) := fun st h hl => exprN_ag n m st h (by omega) (by omega)
 unfold commandF
 simp only
 rw [<- paramsF_ag n m _ d1.ok (by omega) (by omega), <- groupsN_ag (n := n) (n' := m) hA (exprN_sfw n) n m [] _ d2.ok (by omega) (by omega) (by omega) (by omega) (by omega), <- exprN_ag n m _ d4.ok (by omega) (by omega), <- exprN_ag n m _ d6.ok (by omega) (by omega), <- tacticF_ag n m _ d8.ok (by omega) (by omega), <- tacticsN_ag n m n m _ _ d7.ok (by omega) (by omega) (by omega) (by omega), <- ctorsN_ag n m n m _ _ d5.ok (by omega) (by omega) (by omega) (by omega)]
theorem pz_commandF_left (n : Nat) {st : FS} (h : st.Sd s) (hc : (commandF s n st).2.code = 0) : (commandF s n st).2.left s + 2 <= st.left s := by
 have hs : st.kin 3 = true := by
  refine Classical.byContradiction fun hx => ?_
  unfold commandF at hc
  simp only [if_neg hx, if_true] at hc
  exact FS.fail_code hc
 have hl := kin_left h hs (by omega) (by omega)
 have hd : Sn s (st.step s) (commandF s n st).2 := by
  have h0 : ¬ (if st.kin 3 = true then wordNo st.t.t kindWords 1 else 0) = 0 := fun hx => by
   unfold commandF at hc
   simp only [hx, if_true] at hc
   exact FS.fail_code hc
  have ht : Sn s (st.step s) (exprN s n ((groupsN s n (exprN s n) n [] (paramsF s n ((st.step s).name s).2).2).2.must s sColon)).2 :=
   (exprN_sfw n).sn ((groupsN_sfw (exprN_sfw n) n []).sn ((paramsF_sfw n).sn (Sn.refl h.step).name)).must
  unfold commandF
  simp only
  generalize (if st.kin 3 = true then wordNo st.t.t kindWords 1 else 0) = k at h0; rw [if_neg h0]; generalize exprN s n ((groupsN s n (exprN s n) n [] (paramsF s n ((st.step s).name s).2).2).2.must s sColon) = t at ht ⊢
  split
  . exact ((exprN_sfw n).sn ht.must).must
  split
  . exact ((tacticsN_sfw n n _).sn ((tacticF_sfw n).sn ht.step)).must
  split
  . exact ((ctorsN_sfw n n _).sn ht).must
  . exact ht.must
 have := hd.left; omega
theorem commands_none {st : FS} (hc : st.code ≠ 0) (k n : Nat) (l : List Cm) : commandsN s n k l st = (l, st) := by
 cases k with
 | zero => rfl
 | succ k => simp only [commandsN]; rw [if_neg (fun h => hc h.1)]
theorem commandsN_ag (n m : Nat) : ∀ (k k' : Nat) (l : List Cm) (st : FS), st.Sd s -> st.left s < 2 * n -> st.left s < 2 * m -> st.left s < 2 * k -> st.left s < 2 * k' -> commandsN s n k l st = commandsN s m k' l st
 | 0, _, _, _ => fun _ _ _ h1 _ => absurd h1 (by omega)
 | _ + 1, 0, _, _ => fun _ _ _ _ h2 => absurd h2 (by omega)
 | k + 1, k' + 1, l, st => fun h h1 h2 h3 h4 => by
   simp only [commandsN]
   split
   . rw [<- commandF_ag n m _ h (by omega) (by omega)]
     have hd := commandF_sfw n _ h
     by_cases hc : (commandF s n st).2.code = 0
     . have := pz_commandF_left n h hc
       exact commandsN_ag n m k k' _ _ hd.ok (by omega) (by omega) (by omega) (by omega)
     . rw [commands_none hc, commands_none hc]
   . rfl
end
theorem textF_ag (s : ByteArray) (m : Nat) (h : s.size + 1 <= m) : textF s = commandsN s m m [] (FS.step s ⟨⟨0, ⟨#[]⟩, 0⟩, 0, 0, 0⟩) := by
 have := left_le s (FS.step s ⟨⟨0, ⟨#[]⟩, 0⟩, 0, 0, 0⟩); exact commandsN_ag (s.size + 1) m (s.size + 1) m [] _ (start_sd s) (by omega) (by omega) (by omega) (by omega)
end Go.Proofs.YtockffblncdikaaGreatDoor
