/- The contracts of the reader's universe and sort. -/
import Derived.Test.YtockffblncdikaaGreatDoorMd
namespace Go.Proofs.YtockffblncdikaaGreatDoor
open Go.RowKit
set_option maxRecDepth 100000
set_option maxHeartbeats 16000000
theorem InX.at {w : World} {S : Nat -> Prop} {x : Ex} {v : Array Value} (h : InX w S x v) : v[1]? = some (.int .i64 (x.at_ : Nat)) := by cases h; rfl
theorem MadeX.xp {w : World} {S : Nat -> Prop} {kd a : Nat} {nm : ByteArray} {xs : List Ex} {e : Ending} {w' : World} (h : MadeX w S kd a nm xs e w') :
 ∃ eb, e = .returned (.pointer (some ⟨eb, 0, none⟩)) /\ w.heap.size <= eb /\ XP w' (fun b => S b \/ w.heap.size <= b) eb (.node kd a nm false false false false [] xs) /\ Below w.heap.size w w' := by
 obtain ⟨eb, A, c, he, hl, hb, hx, hB⟩ := h; refine ⟨eb, he, hl, ⟨_, hb, ?_⟩, hB⟩; exact (InX.of (LvsIn.nil _ _ _) hx).keep fun b _ hs => ⟨hs.1, rfl⟩
theorem two_ptrs {w : World} {a b : Nat} : ∀ i, i < 2 -> (w.alloc (.cells #[.pointer (some ⟨a, 0, none⟩), .pointer (some ⟨b, 0, none⟩)] 88)).cell? ⟨w.heap.size, i, none⟩ = some (.pointer (some ⟨if i = 0 then a else b, 0, none⟩)) := by
 intro i hi; have h := heap_alloc_new w (.cells #[.pointer (some ⟨a, 0, none⟩), .pointer (some ⟨b, 0, none⟩)] 88)
 match i, hi with
 | 0, _ => exact cell_of h 0 rfl
 | 1, _ => exact cell_of h 1 rfl
theorem applied_calls (f a : Ex) (fb ab : Nat) (S : Nat -> Prop) (w : World) (hf : XP w S fb f) (ha : XP w S ab a) :
 Calls Tryz.prog 109 #[.pointer (some ⟨fb, 0, none⟩), .pointer (some ⟨ab, 0, none⟩)] w fun e w' => ∃ eb, e = .returned (.pointer (some ⟨eb, 0, none⟩)) /\ w.heap.size <= eb /\ XP w' (fun b => S b \/ w.heap.size <= b) eb (appX f.at_ f a) /\ Below w.heap.size w w' := by
 have hB : Below w.heap.size w (w.alloc (.cells #[.pointer (some ⟨fb, 0, none⟩), .pointer (some ⟨ab, 0, none⟩)] 88)) := (Below.refl _ _).alloc (Nat.le_refl _) _
 have KM := hide (made_calls 4 f.at_ ⟨#[]⟩ [f, a] (fun i => if i = 0 then fb else ab) (some ⟨w.heap.size, 0, none⟩) 2 (w.alloc (.cells #[.pointer (some ⟨fb, 0, none⟩), .pointer (some ⟨ab, 0, none⟩)] 88)) (by simp) (fun i hi => ⟨w.heap.size, rfl, two_ptrs i hi⟩) S (fun i hi => by
  match i, hi with
  | 0, _ => exact hf.later hB
  | 1, _ => exact ha.later hB))
 obtain ⟨v, hv, hx⟩ := hf; have c1 : w.cell? ⟨fb, 1, none⟩ = some (.int .i64 (f.at_ : Nat)) := cell_of hv 1 hx.at; clear hv hx ha
 go_enter Tryz.func109, Tryz.ntmps109
 go_wp2_with (go_at_call 71; refine KM.out.mono ?_)
 intro e w1 h1; obtain ⟨eb, rfl, hl, hxp, hB1⟩ := h1.xp
 have HF : Hid (∃ eb', Ending.returned (.pointer (some ⟨eb, 0, none⟩)) = .returned (.pointer (some ⟨eb', 0, none⟩)) /\ w.heap.size <= eb' /\ XP w1 (fun b => S b \/ w.heap.size <= b) eb' (appX f.at_ f a) /\ Below w.heap.size w w1) := ⟨eb, rfl, by simp at hl; omega, hxp.keep rfl fun b _ hs => ⟨hs.imp id fun h => by simp at h; omega, rfl⟩, hB.trans (hB1.mono (by simp))⟩
 clear h1 hxp hB1 KM
 go_wp2_with fail
 go_ret; exact HF.out
theorem equation_calls (at_ : Nat) (l r : Ex) (lb rb : Nat) (S : Nat -> Prop) (w : World) (hl : XP w S lb l) (hr : XP w S rb r) :
 Calls Tryz.prog 88 #[.int .i64 (at_ : Nat), .pointer (some ⟨lb, 0, none⟩), .pointer (some ⟨rb, 0, none⟩)] w fun e w' => ∃ eb, e = .returned (.pointer (some ⟨eb, 0, none⟩)) /\ w.heap.size <= eb /\ XP w' (fun b => S b \/ w.heap.size <= b) eb (appX at_ (appX at_ (.node 1 at_ wEq false false true false [] []) l) r) /\ Below w.heap.size w w' := by
 have KM := hide (made_calls 1 at_ ⟨#[69, 113]⟩ [] (fun _ => 0) none 0 w (by simp) (fun i hi => absurd hi (by simp)) S (fun i hi => absurd hi (by simp))); have HL := hide hl; have HR := hide hr; clear hl hr
 go_enter Tryz.func88, Tryz.ntmps88
 go_wp2_with (go_at_call 71; refine KM.out.mono ?_)
 rintro e w1 ⟨eb, A, c, rfl, hle, hblk, hX, hB1⟩; have z5 : w1.cell? ⟨eb, 5, none⟩ = some (.bool false) := cell_of hblk 5 rfl; have zf : ∀ i, w1.frozen? ⟨eb, i, none⟩ = false := fun i => frozen_of hblk i
 have zl : eb < w1.heap.size := (Array.getElem?_eq_some_iff.1 hblk).1; have hB2 : Below w.heap.size w (w1.setCell ⟨eb, 5, none⟩ (.bool true)) := hB1.setCell (p := ⟨eb, 5, none⟩) hle _
 have hE : XP (w1.setCell ⟨eb, 5, none⟩ (.bool true)) (fun b => S b \/ w.heap.size <= b) eb (.node 1 at_ wEq false false true false [] []) :=
  ⟨xcs 1 (at_ : Nat) wEq false false true false (.slice none 0 0) (.slice A 0 c), by simp [World.setCell, Array.getElem?_modify, hblk], InX.of (ls := []) (xs := []) (LvsIn.nil _ _ _) (XsIn.nil _ _ _)⟩
 have KA := hide (applied_calls _ l eb lb (fun b => S b \/ w.heap.size <= b) _ hE (HL.out.later hB2 |>.keep rfl fun b _ hs => ⟨.inl hs, rfl⟩)); have HB2 := hide hB2; have HRr := hide (HR.out.later hB2)
 clear hblk hX hB1 hB2 hE KM HL HR
 go_wp2_with fail
 generalize w1.setCell ⟨eb, 5, none⟩ (.bool true) = w2 at *
 go_wp2_with (go_at_call 109; refine KA.out.mono ?_)
 rintro e w3 ⟨e3, rfl, hl3, hx3, hB3⟩; have KA2 := hide (applied_calls _ r e3 rb (fun b => (S b \/ w.heap.size <= b) \/ w2.heap.size <= b) w3 hx3 (HRr.out.later hB3 |>.keep rfl fun b _ hs => ⟨.inl (.inl hs), rfl⟩))
 have HB3 := hide hB3; have hz2 := HB2.out.size; have hz3 := hB3.size; clear hx3 hB3 KA HRr
 go_wp2_with (go_at_call 109; refine KA2.out.mono ?_)
 rintro e w4 ⟨e4, rfl, hl4, hx4, hB4⟩
 have HF : Hid (∃ eb', Ending.returned (.pointer (some ⟨e4, 0, none⟩)) = .returned (.pointer (some ⟨eb', 0, none⟩)) /\ w.heap.size <= eb' /\ XP w4 (fun b => S b \/ w.heap.size <= b) eb' (appX at_ (appX at_ (.node 1 at_ wEq false false true false [] []) l) r) /\ Below w.heap.size w w4) :=
  ⟨e4, rfl, by omega, hx4.keep rfl fun b _ hs => ⟨by rcases hs with ((hs | hs) | hs) | hs; exact .inl hs; exact .inr hs; exact .inr (by omega); exact .inr (by omega), rfl⟩, (HB2.out.trans (HB3.out.mono hz2)).trans (hB4.mono (by omega))⟩
 clear hx4 hB4 KA2
 go_wp2_with fail
 go_ret; exact HF.out
def Lost (st : FS) : Prop := st.code ≠ 0 \/ st.t.kd = 4
def fp (st : FS) : Nat := if st.code = 0 then st.t.at_ else st.fat
def Bdn (st st' : FS) : Prop := Lost st -> Lost st' /\ fp st' = fp st
theorem Bdn.refl (st : FS) : Bdn st st := fun h => ⟨h, rfl⟩
theorem Bdn.trans {a b c : FS} (h : Bdn a b) (h' : Bdn b c) : Bdn a c := fun x => ⟨(h' (h x).1).1, ((h' (h x).1).2).trans (h x).2⟩
theorem Lost.is {st : FS} (h : Lost st) (q : ByteArray) : st.is q = false := by
 unfold FS.is
 rcases h with h | h
 . rw [show (st.code == 0) = false from by simpa using h]; rfl
 . rw [show (st.t.kd == 3) = false from by simp; omega]; simp
theorem Lost.kin {st : FS} (h : Lost st) {k : Nat} (hk : k ≠ 4) : st.kin k = false := by
 unfold FS.kin
 rcases h with h | h
 . rw [show (st.code == 0) = false from by simpa using h]; rfl
 . rw [show (st.t.kd == k) = false from by simp; omega]; simp
theorem bdn_fail (st : FS) : Bdn st st.fail := fun h => by
 unfold FS.fail
 split
 . rename_i h0
   refine ⟨.inl (by simp), ?_⟩; unfold fp
   simp [h0]
 . exact ⟨h, rfl⟩
section
variable {s : ByteArray} {st : FS}
theorem bdn_must (st : FS) (q : ByteArray) : Bdn st (st.must s q) := fun h => by
 unfold FS.must; rw [if_neg (by rw [h.is]; simp)]; exact bdn_fail st h
def Bfw {α : Type} (E : FS -> α × FS) : Prop := ∀ st, Bdn st (E st).2
theorem latomF_bfw (L : FS -> LvB × FS) : Bfw (latomF s L) := fun st h => by
 unfold latomF; rw [if_neg (by rw [h.kin (by decide)]; simp), if_neg (by rw [h.kin (by decide)]; simp), if_neg (by rw [h.is]; simp)]; exact bdn_fail st h
theorem plusN_bfw (m : Nat) (l : LvB) : Bfw (plusN s m l) := fun st h => by
 rw [plus_stop (h.is _)]; exact ⟨h, rfl⟩
theorem levelF_bfw (L : FS -> LvB × FS) (m : Nat) : Bfw (levelF s L m) := fun st h => by
 unfold levelF; rw [if_neg (by rw [h.is]; simp), if_neg (by rw [h.is]; simp)]; exact (latomF_bfw L st).trans (plusN_bfw m _ _) h
theorem levelN_bfw : ∀ n, Bfw (levelN s n)
 | 0 => fun st => Bdn.refl st
 | _ + 1 => levelF_bfw _ _
variable {n : Nat} {E : FS -> Ex × FS}
theorem atomF_bfw (E : FS -> Ex × FS) : Bfw (atomF s n E) := fun st h => by
 unfold atomF
 rw [if_neg (by rw [h.kin (by decide)]; simp), if_neg (by rw [h.is]; simp), if_neg (by rw [h.is]; simp), if_neg (by rw [h.is]; simp), if_neg (by rw [h.is]; simp), if_neg (by rw [h.is]; simp), if_neg (by rw [h.is]; simp)]
 exact bdn_fail st h
theorem Lost.begins {st : FS} (h : Lost st) : begins st = false := by
 unfold Proofs.YtockffblncdikaaGreatDoor.begins; rw [h.kin (by decide), h.is, h.is, h.is, h.is, h.is, h.is]
 rfl
theorem applyN_bfw (E : FS -> Ex × FS) (m : Nat) (e : Ex) : Bfw (applyN s n E m e) := fun st h => by
 cases m with
 | zero => exact ⟨h, rfl⟩
 | succ m => simp only [applyN]; rw [if_neg (by rw [h.begins]; simp)]; exact ⟨h, rfl⟩
theorem applyF_bfw (E : FS -> Ex × FS) : Bfw (applyF s n E) := fun st => (atomF_bfw E st).trans (applyN_bfw E n _ _)
theorem equalF_bfw (E : FS -> Ex × FS) : Bfw (equalF s n E) := fun st h => by
 obtain ⟨h1, h2⟩ := applyF_bfw (s := s) (n := n) E st h; unfold equalF
 simp only
 rw [if_neg (by rw [h1.is]; simp)]; exact ⟨h1, h2⟩
theorem groupsN_bfw (E : FS -> Ex × FS) (m : Nat) (l : List Bd) : Bfw (groupsN s n E m l) := fun st h => by
 cases m with
 | zero => exact ⟨h, rfl⟩
 | succ m => simp only [groupsN]; rw [if_neg (by rw [h.is, h.is]; simp)]; exact ⟨h, rfl⟩
theorem exprF_bfw (E : FS -> Ex × FS) : Bfw (exprF s n E) := fun st h => by
 obtain ⟨h1, h2⟩ := equalF_bfw (s := s) (n := n) E st h; unfold exprF
 simp only
 rw [if_neg (by rw [h.is]; simp), if_neg (by rw [h.is]; simp), if_neg (by rw [h.is]; simp), if_neg (by rw [h1.is]; simp)]; exact ⟨h1, h2⟩
theorem exprN_bfw : ∀ n, Bfw (exprN s n)
 | 0 => fun st => Bdn.refl st
 | _ + 1 => exprF_bfw _
end
def RX (w : World) (rb : Nat) (mv : Value) (s : ByteArray) (st' : FS) (G : Ending -> World -> Prop) (e : Ending) (w' : World) : Prop :=
 (st'.code = 0 /\ G e w' /\ Rdy w' rb mv s st' /\ Touched w rb w') \/ (Lost st' /\ Threw w rb 1 (fp st') e w')
theorem RQ.rx {w w' : World} {rb : Nat} {mv : Value} {s : ByteArray} {st' : FS} {G : Ending -> World -> Prop} {e : Ending} (h : RQ w rb mv s st' G e w') : RX w rb mv s st' G e w' := by
 rcases h with h | ⟨h1, h2⟩
 . exact .inl h
 . refine .inr ⟨.inl h1, ?_⟩
   unfold fp; rw [if_neg h1]; exact h2
theorem RX.bad {w w0 w' : World} {rb : Nat} {mv : Value} {s : ByteArray} {st' fin : FS} {G : Ending -> World -> Prop} {e : Ending} (hc : Lost st') (h : Threw w rb 1 (fp st') e w') (ht : Touched w0 rb w) (hf : Bdn st' fin) : RX w0 rb mv s fin G e w' := by
 obtain ⟨h1, h2⟩ := hf hc; exact .inr ⟨h1, by rw [h2]; exact h.from ht⟩
theorem lost_of {st : FS} (h : st.code ≠ 0) : Lost st := .inl h
theorem fp_of {st : FS} (h : st.code ≠ 0) : fp st = st.fat := if_neg h
def ExR (w : World) (x : Ex) (e : Ending) (w' : World) : Prop := ∃ eb, e = .returned (.pointer (some ⟨eb, 0, none⟩)) /\ w.heap.size <= eb /\ XP w' (fun b => w.heap.size <= b) eb x
def univF (s : ByteArray) (n : Nat) (st : FS) : LvB × FS :=
 if st.is wProp = true then (.zero, st.step s)
 else if st.is wType = true then (if (st.step s).kin 2 = true then raised s (.succ .zero) (st.step s) else (.succ .zero, st.step s))
 else if st.is wSort = true then latomN s n (st.step s)
 else (.zero, st.fail)
section
variable {rb : Nat} {mv : Value} {s : ByteArray}
theorem lv_retX {w W : World} {st st' : FS} {l : LvB} {k : Int} {nm : ByteArray} {A : Option Addr} {n c : Nat} {u0 u1 u2 : Value} (h0 : Rdy w rb mv s st) (hR : Rdy W rb mv s st') (hT : Touched (w.alloc zlv) rb W) (hI : InP W (fun b => w.heap.size + 1 <= b) l (.agg #[.int .i64 k, .string nm, .slice A n c])) :
 RX w rb mv s st' (LvR (fun b => w.heap.size <= b) l) (.returned (.agg #[.int .i64 k, .string nm, .slice A n c])) (set3 W w.heap.size u0 u1 u2) := (lv_ret h0 hR hT hI).rx
theorem is_other {st : FS} {q r : ByteArray} (h : st.is q = true) (hne : q ≠ r) : st.is r = false := by
 have h3 := (FS.is_kd h).2.2; unfold FS.is; rw [show decide (st.t.t = r) = false from by rw [h3]; simpa using hne]
 simp
theorem step_code {st : FS} (h : st.code = 0) : (st.step s).code = 0 := by unfold FS.step; rw [if_pos h]; exact h
theorem universe_calls (n : Nat) (st : FS) (w : World) (h : Rdy w rb mv s st) (hl : st.left s <= n) :
 Calls Tryz.prog 124 #[.pointer (some ⟨rb, 0, none⟩)] w fun e w' => RX w rb mv s (univF s n st).2 (LvR (fun b => w.heap.size <= b) (univF s n st).1) e w' := by
 have H := hide h; have hc := h.code; have hlt := h.lt; have hA := h.alloc zlv; have KT := hide (tookQ hA wProp)
 by_cases hq : st.is wProp = true
 . have HFin : Hid (univF s n st = (.zero, st.step s)) := if_pos hq
   rw [HFin.out]; rw [hq, if_pos rfl] at KT; clear h hA hq hl HFin; generalize st.step s = st1 at *
   go_enter Tryz.func124, Tryz.ntmps124
   go_wp2_with (go_at_call 38; refine KT.out.mono ?_)
   rintro e W1 ⟨rfl, hR1, hT1⟩; have hbx := lv_box H.out hT1; have r0 := hbx.c0; have r1 := hbx.c1; have r2 := hbx.c2; have rf := hbx.f; have rl := hbx.lt
   have HF : Hid (∀ u0 u1 u2, RX w rb mv s st1 (LvR (fun b => w.heap.size <= b) .zero) (.returned (.agg #[.int .i64 0, .string ⟨#[]⟩, .slice none 0 0])) (set3 W1 w.heap.size u0 u1 u2)) := fun u0 u1 u2 => lv_retX H.out hR1 hT1 rfl
   clear hR1 hT1 hbx KT
   go_wp2_with fail
   refine bodyPost_ret (v := .agg #[.int .i64 0, .string ⟨#[]⟩, .slice none 0 0]) (by simp [results, Tryz.results124, go_sem, r0, r1, r2]) rfl ?_; exact HF.out _ _ _
 have hq' : st.is wProp = false := by simpa using hq
 rw [hq', if_neg (by simp)] at KT
 have HT2 : Hid (∀ W, Rdy W rb mv s st -> Calls Tryz.prog 38 #[.pointer (some ⟨rb, 0, none⟩), .string wSort] W fun e w' => e = .returned (.bool (st.is wSort)) /\ Rdy w' rb mv s (if st.is wSort = true then st.step s else st) /\ Touched W rb w') := fun W hW => tookQ hW wSort
 by_cases hi : st.is wSort = true
 . have hty := is_other hi (r := wType) (by decide)
   have hkd := (FS.is_kd hi).2.1; have hlef := FS.step_left h.ok hc (by omega) (by omega)
   have HFin : Hid (univF s n st = latomN s n (st.step s)) := hide (by unfold univF; rw [if_neg hq, if_neg (by rw [hty]; simp), if_pos hi]); rw [HFin.out]; rw [hi, if_pos rfl] at HT2
   have HL : Hid (∀ W, Rdy W rb mv s (st.step s) -> Calls Tryz.prog 135 #[.pointer (some ⟨rb, 0, none⟩)] W fun e w' => RQ W rb mv s (latomN s n (st.step s)).2 (LvR (fun b => W.heap.size <= b) (latomN s n (st.step s)).1) e w') := fun W hW => latom_calls n (level_all n) _ W hW (by omega)
   clear h hA hq hq' hi hty hkd hlef hl HFin; generalize (latomN s n (st.step s)).1 = res at *; generalize (latomN s n (st.step s)).2 = st2 at *; generalize st.step s = st1 at *
   go_enter Tryz.func124, Tryz.ntmps124
   go_wp2_with (go_at_call 38; refine KT.out.mono ?_)
   rintro e W0 ⟨rfl, hR0, hT0⟩; have KT2 := hide (HT2.out W0 hR0); have HT0 := hide hT0; clear hR0 hT0 KT HT2
   go_wp2_with (go_at_call 38; refine KT2.out.mono ?_)
   rintro e W1 ⟨rfl, hR1, hT1⟩; have KG := hide (HL.out W1 hR1); have HT1 := hide (HT0.out.trans hT1); clear hR1 hT1 KT2 HT0 HL
   go_wp2_with (go_at_call 135; refine KG.out.mono ?_)
   intro e W2 h2
   rcases h2 with ⟨hc2, ⟨k2, nm2, A2, n2, c2, rfl, hI2⟩, hR2, hT2⟩ | ⟨hc2, hth⟩
   rotate_left
   . have HF : Hid (RX w rb mv s st2 (LvR (fun b => w.heap.size <= b) res) e W2) := RX.bad (lost_of hc2) (by rw [fp_of hc2]; exact hth) ((Touched.alloc _ _ _).trans HT1.out) (Bdn.refl _)
     obtain ⟨fb, rfl, -⟩ := hth
     go_wp2_with fail
     exact ⟨rfl, HF.out⟩
   have hT4 := HT1.out.trans hT2; have hz1 := HT1.out.size; have hbx := lv_box H.out hT4; have r0 := hbx.c0; have r1 := hbx.c1; have r2 := hbx.c2; have rf := hbx.f; have rl := hbx.lt
   have HF : Hid (∀ u0 u1 u2, RX w rb mv s st2 (LvR (fun b => w.heap.size <= b) res) (.returned (.agg #[.int .i64 k2, .string nm2, .slice A2 n2 c2])) (set3 W2 w.heap.size u0 u1 u2)) := fun u0 u1 u2 => lv_retX H.out hR2 hT4 (hI2.keep fun b _ hb => ⟨by have : W1.heap.size <= b := hb; simp at hz1; omega, rfl⟩)
   clear hR2 hT2 hT4 hbx hI2 KG
   go_wp2_with fail
   refine bodyPost_ret (v := .agg #[.int .i64 k2, .string nm2, .slice A2 n2 c2]) (by simp [results, Tryz.results124, go_sem, r0, r1, r2]) rfl ?_; exact HF.out _ _ _
 have hi' : st.is wSort = false := by simpa using hi
 rw [hi', if_neg (by simp)] at HT2
 have HE3 : Hid (∀ W, Rdy W rb mv s st -> Calls Tryz.prog 29 #[.pointer (some ⟨rb, 0, none⟩), .string wType] W fun e w' => RQ W rb mv s (st.must s wType) (fun e _ => e = .returned (.tuple #[])) e w') := fun W hW => expectQ hW wType
 by_cases hty : st.is wType = true
 . have HM : Hid (st.must s wType = st.step s) := if_pos hty
   have hc1 := step_code (s := s) hc
   have HFin : Hid (univF s n st = if (st.step s).kin 2 = true then raised s (.succ .zero) (st.step s) else (.succ .zero, st.step s)) := hide (by unfold univF; rw [if_neg hq, if_pos hty]); rw [HM.out] at HE3
   rw [HFin.out]; clear h hA hq hq' hi hi' hty hl HM HFin; generalize st.step s = st1 at *; obtain ⟨fin, hfin⟩ : ∃ fin, fin = (if st1.kin 2 = true then raised s (.succ .zero) st1 else (.succ .zero, st1)) := ⟨_, rfl⟩
   rw [<- hfin]; have HFi := hide hfin; clear hfin
   go_enter Tryz.func124, Tryz.ntmps124
   go_wp2_with (go_at_call 38; refine KT.out.mono ?_)
   rintro e W0 ⟨rfl, hR0, hT0⟩; have KT2 := hide (HT2.out W0 hR0); have HT0 := hide hT0; clear hR0 hT0 KT HT2
   go_wp2_with (go_at_call 38; refine KT2.out.mono ?_)
   rintro e W1 ⟨rfl, hR1, hT1⟩; have KE := hide (HE3.out W1 hR1); have HT1 := hide (HT0.out.trans hT1); clear hR1 hT1 KT2 HT0 HE3
   go_wp2_with (go_at_call 29; refine KE.out.mono ?_)
   intro e W2 h2
   rcases h2 with ⟨hc2, rfl, hR2, hT2⟩ | ⟨hc2, hth⟩
   rotate_left
   . exact absurd hc1 hc2
   have HT2 := hide (HT1.out.trans hT2); have HR2 := hide hR2; obtain ⟨k, t, d1, d2, d3, hk01, hgood, hbad, hts⟩ := hR2.kind; have hkd4 := hR2.ok.kd; have hbx := lv_box H.out HT2.out; clear hR2 hT2 KE HT1 hk01
   by_cases hk : k = 2
   . subst hk
     have hkd : st1.t.kd = 2 \/ st1.t.kd = 4 := by
      by_cases h3 : st1.t.kd <= 3
      . exact .inl (hgood h3).1.symm
      . exact .inr (by omega)
     have KN := hide (numberQ HR2.out 98 (by omega))
     have HR : Hid (((numF s 98 st1).code = 0 -> (if st1.kin 2 = true then raised s (.succ .zero) st1 else (.succ .zero, st1)) = (succN (decV st1.t.t + 1) .zero, numF s 98 st1) /\ decV st1.t.t <= 98) /\ ((numF s 98 st1).code ≠ 0 -> Lost (if st1.kin 2 = true then raised s (.succ .zero) st1 else (.succ .zero, st1)).2 /\ fp (if st1.kin 2 = true then raised s (.succ .zero) st1 else (.succ .zero, st1)).2 = (numF s 98 st1).fat)) := hide (by
      rcases hkd with hkd | hkd
      . have hk2 : st1.kin 2 = true := by rw [kin_eq hc1, hkd]; rfl
        rw [if_pos hk2]; obtain ⟨e1, e2⟩ := raised_numF (s := s) (l := .succ .zero) (st := st1) (by simp [chain]); have e3 : 99 - chain (.succ .zero : LvB) = 98 := rfl; rw [e3] at e1 e2
        refine ⟨fun h0 => ⟨Prod.ext (e2 h0).1 e1, by have := (e2 h0).2; simp only [chain] at this; omega⟩, fun h0 => ⟨.inl (by rw [e1]; exact h0), ?_⟩⟩; rw [e1]; exact fp_of h0
      . have hk2 : st1.kin 2 = false := by rw [kin_eq hc1, hkd]; rfl
        rw [if_neg (by rw [hk2]; simp)]; have hnf : numF s 98 st1 = { st1 with code := 1, fat := st1.t.at_ } := by unfold numF FS.fail; rw [if_neg (by rw [hk2]; simp), if_pos hc1]
        rw [hnf]; refine ⟨fun h0 => by simp at h0, fun _ => ⟨.inr hkd, ?_⟩⟩; unfold fp; rw [if_pos hc1])
     clear hgood hbad hkd; rw [<- HFi.out] at HR; clear HFi; generalize numF s 98 st1 = st2 at *; generalize decV st1.t.t = v at *
     go_wp2_with (go_at_call 89; refine KN.out.mono ?_)
     intro e W3 h3
     rcases h3 with ⟨hc3, rfl, hR3, hT3⟩ | ⟨hc3, hth⟩
     rotate_left
     . have HF : Hid (RX w rb mv s fin.2 (LvR (fun b => w.heap.size <= b) fin.1) e W3) := .inr ⟨(HR.out.2 hc3).1, by rw [(HR.out.2 hc3).2]; exact hth.from ((Touched.alloc _ _ _).trans HT2.out)⟩
       obtain ⟨fb, rfl, -⟩ := hth
       go_wp2_with fail
       exact ⟨rfl, HF.out⟩
     obtain ⟨hfin, hv⟩ := HR.out.1 hc3; subst hfin; have KR := hide (raised_calls .zero (v + 1) (by omega) (fun _ => False) 0 ⟨#[]⟩ none 0 0 W3 rfl); have HT3 := hide (HT2.out.trans hT3); have HR3 := hide hR3
     have hcast : (((v + 1 : Nat)) : Int) = (v : Int) + 1 := by omega
     rw [hcast] at KR; clear hR3 hT3 KN HT2 hbx
     go_wp2_with (go_at_call 136; refine KR.out.mono ?_)
     rintro e W4 ⟨⟨k2, nm2, A2, n2, c2, rfl, hI2⟩, hB2⟩; have hT4 := HT3.out.later hB2; have hbx := lv_box H.out hT4; have r0 := hbx.c0; have r1 := hbx.c1; have r2 := hbx.c2; have rf := hbx.f; have rl := hbx.lt
     have hz1 := HT3.out.size
     have HF : Hid (∀ u0 u1 u2, RX w rb mv s st2 (LvR (fun b => w.heap.size <= b) (succN (v + 1) .zero)) (.returned (.agg #[.int .i64 k2, .string nm2, .slice A2 n2 c2])) (set3 W4 w.heap.size u0 u1 u2)) := fun u0 u1 u2 => lv_retX H.out (HR3.out.later hB2) hT4 (hI2.keep fun b _ hb => ⟨by simp at hz1; rcases hb with hb | hb; exact hb.elim; omega, rfl⟩)
     clear hI2 hB2 hT4 hbx KR
     go_wp2_with fail
     refine bodyPost_ret (v := .agg #[.int .i64 k2, .string nm2, .slice A2 n2 c2]) (by simp [results, Tryz.results124, go_sem, r0, r1, r2]) rfl ?_; exact HF.out _ _ _
   . have hk2 : ((k : Int) == 2) = false := by simp; omega
     have hkin : st1.kin 2 = false := by
      rw [kin_eq hc1]
      cases e : (st1.t.kd == 2)
      . rfl
      . have e2 : st1.t.kd = 2 := by simpa using e
        exact absurd ((hgood (by omega)).1.trans e2) hk
     have hfin := HFi.out; rw [if_neg (by rw [hkin]; simp)] at hfin; subst hfin; have KR := hide (raised_calls .zero 1 (by omega) (fun _ => False) 0 ⟨#[]⟩ none 0 0 W2 rfl); clear hgood hbad hk hkin hbx
     go_wp2_with (go_at_call 136; refine KR.out.mono ?_)
     rintro e W4 ⟨⟨k2, nm2, A2, n2, c2, rfl, hI2⟩, hB2⟩; have hT4 := HT2.out.later hB2; have hbx := lv_box H.out hT4; have r0 := hbx.c0; have r1 := hbx.c1; have r2 := hbx.c2; have rf := hbx.f; have rl := hbx.lt
     have hz1 := HT2.out.size
     have HF : Hid (∀ u0 u1 u2, RX w rb mv s st1 (LvR (fun b => w.heap.size <= b) (.succ .zero)) (.returned (.agg #[.int .i64 k2, .string nm2, .slice A2 n2 c2])) (set3 W4 w.heap.size u0 u1 u2)) := fun u0 u1 u2 => lv_retX H.out (HR2.out.later hB2) hT4 (hI2.keep fun b _ hb => ⟨by simp at hz1; rcases hb with hb | hb; exact hb.elim; omega, rfl⟩)
     clear hI2 hB2 hT4 hbx KR
     go_wp2_with fail
     refine bodyPost_ret (v := .agg #[.int .i64 k2, .string nm2, .slice A2 n2 c2]) (by simp [results, Tryz.results124, go_sem, r0, r1, r2]) rfl ?_; exact HF.out _ _ _
 . have HM : Hid (st.must s wType = st.fail) := if_neg hty
   have HFin : Hid (univF s n st = (.zero, st.fail)) := hide (by unfold univF; rw [if_neg hq, if_neg hty, if_neg hi]); have HCo : Hid (st.fail.code ≠ 0) := hide (by unfold FS.fail; rw [if_pos hc]; simp)
   rw [HM.out] at HE3; rw [HFin.out]; clear h hA hq hq' hi hi' hty hl HM HFin; generalize st.fail = st1 at *
   go_enter Tryz.func124, Tryz.ntmps124
   go_wp2_with (go_at_call 38; refine KT.out.mono ?_)
   rintro e W0 ⟨rfl, hR0, hT0⟩; have KT2 := hide (HT2.out W0 hR0); have HT0 := hide hT0; clear hR0 hT0 KT HT2
   go_wp2_with (go_at_call 38; refine KT2.out.mono ?_)
   rintro e W1 ⟨rfl, hR1, hT1⟩; have KE := hide (HE3.out W1 hR1); have HT1 := hide (HT0.out.trans hT1); clear hR1 hT1 KT2 HT0 HE3
   go_wp2_with (go_at_call 29; refine KE.out.mono ?_)
   intro e W2 h2
   rcases h2 with ⟨hc2, rfl, hR2, hT2⟩ | ⟨hc2, hth⟩
   . exact absurd hc2 HCo.out
   have HF : Hid (RX w rb mv s st1 (LvR (fun b => w.heap.size <= b) .zero) e W2) := RX.bad (lost_of hc2) (by rw [fp_of hc2]; exact hth) ((Touched.alloc _ _ _).trans HT1.out) (Bdn.refl _); obtain ⟨fb, rfl, -⟩ := hth
   go_wp2_with fail
   exact ⟨rfl, HF.out⟩
end
end Go.Proofs.YtockffblncdikaaGreatDoor
