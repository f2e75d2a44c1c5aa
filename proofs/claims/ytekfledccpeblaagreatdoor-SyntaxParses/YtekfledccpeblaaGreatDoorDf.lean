/- The contract of file: the whole text. -/
import Derived.Test.YtekfledccpeblaaGreatDoorCm
import Derived.Test.YtekfledccpeblaaGreatDoorDl

namespace Go.Proofs.YtekfledccpeblaaGreatDoor
open Go.RowKit

/-- A command as a value. -/
def CmP (W : World) (S : Nat → Prop) (c : Cm) (v : Value) : Prop := ∃ a, v = .agg a ∧ CmIn W S c a
theorem keep_CmP : Keep1 CmP := fun _ _ _ _ _ _ h ⟨a, e, hc⟩ => ⟨a, e, hc.keep h⟩
/-- Commands lie there. -/
def CmsIn (w : World) (S : Nat → Prop) (A : Option Addr) (l : List Cm) : Prop := ∀ i (h : i < l.length), ∃ (b : Nat) (v : Array Value), A = some ⟨b, 0, none⟩ ∧ S b ∧ CmIn w S l[i] v ∧ ∀ q, q < 26 → w.cell? ⟨b, i * 26 + q, none⟩ = v[q]?
theorem GRow.cms {W : World} {T n0 : Nat} {l : List Cm} {rv : Value} {ys : List Value} (h : GRow (KL CmP l) W T 26 0 n0 l.length rv ys) : ∃ A c, rv = .slice A l.length c ∧ CmsIn W (fun b => n0 ≤ b) A l := by
  obtain ⟨A, c, e, hp⟩ := h.out (KL.keeps keep_CmP _)
  refine ⟨A, c, e, fun i hi => ?_⟩
  obtain ⟨g, a, ea, hg, hz, hc, hin⟩ := hp i hi
  obtain ⟨_, a', e', hv⟩ := hin
  injection e' with e'
  subst e'
  exact ⟨g, a, ea, hg, hv.keep fun b _ hb => ⟨by rcases hb with hb | hb; omega; exact hb, rfl⟩, hc⟩
theorem CmsIn.nil (w : World) (S : Nat → Prop) (A : Option Addr) : CmsIn w S A [] := fun i hi => absurd hi (by simp)
theorem CmsIn.keep {w w' : World} {S S' : Nat → Prop} {A : Option Addr} {l : List Cm} (h : CmsIn w S A l) (hk : ∀ b, b < w.heap.size → S b → S' b ∧ w'.heap[b]? = w.heap[b]?) : CmsIn w' S' A l := fun i hi => by
  obtain ⟨b, v, e, hs, hc, hq⟩ := h i hi
  have hb : b < w.heap.size := World.block_lt_of_cell? _ ⟨b, i * 26 + 0, none⟩ ((hq 0 (by omega)).trans (Array.getElem?_eq_getElem (by rw [hc.size]; omega)))
  have h1 := hk b hb hs
  exact ⟨b, v, e, h1.1, hc.keep hk, fun q hq' => (World.cell?_of_block h1.2).trans (hq q hq')⟩
theorem Tryz.info47' : (Tryz.prog.info? 47).map (fun i => (i.zero, i.size, i.bytes)) = some (some (.agg (zccs 0)), 26, 312) := by kernel_rfl
theorem wrote_fold : ∀ (l : List Value) (vs : Array Value) (o : Nat), (l.zipIdx o).foldl (fun (cs : Array Value) (x : Value × Nat) => cs.setIfInBounds x.snd x.fst) vs = wrote vs o l
  | [], _, _ => rfl
  | x :: l, vs, o => by
    rw [List.zipIdx_cons, List.foldl_cons]
    exact wrote_fold l _ (o + 1)
theorem fold26 {v : Array Value} (h : v.size = 26) : Array.foldl (fun (cs : Array Value) (x : Value × Nat) => cs.setIfInBounds x.snd x.fst) (zccs 0) v.zipIdx 0 26 = v := by
  have hz : v.zipIdx.size = 26 := by simp [h]
  have e1 : Array.foldl (fun (cs : Array Value) (x : Value × Nat) => cs.setIfInBounds x.snd x.fst) (zccs 0) v.zipIdx 0 26 = v.zipIdx.toList.foldl (fun (cs : Array Value) (x : Value × Nat) => cs.setIfInBounds x.snd x.fst) (zccs 0) := by
    rw [Array.foldl_toList, hz]
  rw [e1, Array.toList_zipIdx, wrote_fold]
  apply Array.ext'
  rw [wrote_toList v.toList (zccs 0) 0 [] (zccs 0).toList [] (by simp) rfl (by simp [h])]
  simp
theorem commandF_left {s : ByteArray} {n : Nat} {st : FS} (ho : st.Ok s) (hc : st.code = 0) (hk : kindNo st ≠ 0) : (commandF s n st).2.left s < st.left s := by
  have hkd : st.t.kd = 3 := by
    unfold kindNo at hk
    by_cases hq : st.kin 3 = true
    · unfold FS.kin at hq; simp at hq; exact hq.2
    · rw [if_neg hq] at hk; exact absurd rfl hk
  have hlef := FS.step_left ho hc (by omega) (by omega)
  rw [commandF_eq hk]
  simp only
  have hd0 := (exprN_fwd (s := s) n).dn (((groupsN_fwd (n := n) (exprN_fwd n) n []).dn ((paramsF_fwd n).dn (Dn.refl ho.step).name)).must (q := sColon))
  have hd := fun c => (((restF_fwd (s := s) n c).dn hd0).must (q := sDot)).left
  exact Nat.lt_of_le_of_lt (hd _) hlef
theorem commands_stop {s : ByteArray} {n : Nat} {st : FS} (h : ¬ (st.code = 0 ∧ st.t.kd ≠ 0)) (m : Nat) (l : List Cm) : commandsN s n m l st = (l, st) := by
  cases m with
  | zero => rfl
  | succ m => simp only [commandsN]; rw [if_neg h]
theorem commandsN_bfw {s : ByteArray} (n : Nat) : ∀ (m : Nat) (l : List Cm), Bfw (commandsN s n m l)
  | 0, _ => fun st h => ⟨h, rfl⟩
  | m + 1, l => fun st h => by
    simp only [commandsN]
    split
    · exact (commandF_bfw n st).trans (commandsN_bfw n m _ _) h
    · exact ⟨h, rfl⟩
section
variable {rb : Nat} {mv : Value} {s : ByteArray}
/-- Commands were read. -/
def CmsR (w : World) (l : List Cm) (e : Ending) (w' : World) : Prop := ∃ (A : Option Addr) (c : Nat), e = .returned (.slice A l.length c) ∧ CmsIn w' (fun b => w.heap.size ≤ b) A l
set_option maxRecDepth 100000 in
set_option maxHeartbeats 8000000 in
theorem file_calls (n : Nat) (hn : n ≤ 900000) (st : FS) (w : World) (h : Rdy w rb mv s st) (hl : st.left s < n) :
    Calls Tryz.prog 13 #[.pointer (some ⟨rb, 0, none⟩)] w fun e w' => RX w rb mv s (commandsN s n n [] st).2 (CmsR w (commandsN s n n [] st).1) e w' := by
  have H := hide h
  have hlt := h.lt
  obtain ⟨fin, hfin⟩ : ∃ fin, fin = commandsN s n n [] st := ⟨_, rfl⟩
  rw [← hfin]
  have HFi := hide hfin
  obtain ⟨i0, hi, hz0, hz1, hz2⟩ := infoParts Tryz.info47'
  have HS : Hid (RwSt CmP 47 26 w rb mv s [] st none 0 [] w) := RwSt.nil h (Touched.refl _ _)
  have HLe := hide hl
  clear hfin h hl
  go_enter Tryz.func13, Tryz.ntmps13
  go_wp2_with fail
  go_loopg [3] n (fun g v wr => ∃ (l : List Cm) (st' : FS) (A : Option Addr) (c : Nat) (ys : List Value), v = .slice A l.length c ∧ Hid (commandsN s n g l st' = fin) ∧ Hid (st'.left s < g) ∧ l.length + g = n ∧ Hid (RwSt CmP 47 26 w rb mv s l st' A c ys wr))
  case atStart => exact ⟨[], st, _, _, _, rfl, HFi.out.symm, HLe.out, by simp, HS.out⟩
  case round =>
    clear HS HLe HFi
    obtain ⟨l, st', A, c, ys, rfl, HE, HLt, hlen, HS⟩ := hrel
    obtain ⟨g', rfl⟩ : ∃ g', gk = g' + 1 := ⟨gk - 1, by have := HLt.out; omega⟩
    have hok := HS.out.rdy.ok
    have hco := HS.out.rdy.code
    obtain ⟨kk, tt, q1, q2, q3, hk, -, -, -⟩ := HS.out.rdy.kind
    have hk0 := hk 0 (by omega)
    by_cases hp : st'.t.kd ≠ 0
    · have hkq : ((kk : Int) != (0 : Int)) = true := by
        have : ((kk : Int) == (0 : Int)) = false := by rw [show ((0 : Int)) = ((0 : Nat) : Int) from rfl, hk0]; simp [hp]
        simp [bne, this]
      have HE2 : Hid (commandsN s n g' (l ++ [(commandF s n st').1]) (commandF s n st').2 = fin) := hide (by have := HE.out; simp only [commandsN] at this; rw [if_pos ⟨hco, hp⟩] at this; exact this)
      have KC := hide (command_calls n hn st' wr HS.out.rdy (by have := HLt.out; omega))
      have HL2 : Hid ((commandF s n st').2.code = 0 → (commandF s n st').2.left s < g') := hide fun hc => by
        have hkn : kindNo st' ≠ 0 := fun e0 => by
          rw [commandF_zero e0] at hc
          unfold FS.fail at hc
          rw [if_pos hco] at hc
          simp at hc
        have := commandF_left (n := n) hok hco hkn
        have := HLt.out
        omega
      have HB : Hid (Bdn (commandF s n st').2 fin.2) := hide (by rw [← HE2.out]; exact commandsN_bfw n g' _ _)
      clear hk hk0 hp hok hco HE HLt
      generalize (commandF s n st').1 = x2 at *
      generalize (commandF s n st').2 = st2 at *
      go_wp2_with (go_at_call 23; refine KC.out.mono ?_)
      intro e W4 h4
      rcases h4 with ⟨hc4, hG4, hR4, hT4⟩ | ⟨hc4, hth⟩
      rotate_left
      · have HF : Hid (RX w rb mv s fin.2 (CmsR w fin.1) e W4) := RX.bad hc4 hth HS.out.old HB.out
        obtain ⟨fb, rfl, -⟩ := hth
        go_wp2_with fail
        exact ⟨rfl, HF.out⟩
      obtain ⟨v2, rfl, hm2⟩ := hG4
      have HP2 : Hid (CmP W4 (fun b => wr.heap.size ≤ b) x2 (.agg v2)) := ⟨v2, rfl, hm2⟩
      have h26 := hm2.size
      have h1c := hm2.one
      have HO4 := hide ((HS.out.row.touched (KL.keeps keep_CmP _) hT4 hlt).own.alloc (.cells v2 47))
      have hz3 := HS.out.old.size
      have hz4 := hT4.size
      have HR4 := hide hR4
      have HT4 := hide hT4
      have HL4 := hide (HL2.out hc4)
      clear hR4 hT4 KC hm2 q1 q2 q3 HL2
      have HFo := hide (fold26 h26)
      go_wp2_with (at_builtin; rw [HFo.out]; refine wpList_append_placed _ rfl _ _ 27 rfl w.heap.size 47 i0 _ 26 312 Tryz.underlying27 hi hz0 hz1 hz2 rfl (by decide) (.slice A l.length c) l.length (flat ys) rfl HO4.out ⟨W4.heap.size, 0, none⟩ 1 1 v2.toList rfl (by simp [h26]) (cells_new _ v2.toList _) (fun u hu => by rw [Array.all_eq_true_iff_forall_mem] at h1c; exact h1c u (by simpa using hu)) (by decide) (by unfold maxLen; omega) (by omega) (by simp; omega) ?_)
      intro v' w6 hown6 hgr6 hpl6
      obtain ⟨A6, c6, hv6, hS6⟩ := RwSt.snoc keep_CmP (x := x2) H.out HS.out HR4.out HT4.out HP2.out h26 hown6 hgr6 (by simpa using hpl6)
      subst hv6
      have HS6 := hide hS6
      clear hown6 hgr6 hpl6 hS6 HO4 HR4 HT4 HS HP2 HFo
      go_wp2_with fail
      go_roundg g'
      case measure => omega
      case rel => exact ⟨l ++ [x2], st2, A6, c6, _, by simp, HE2.out, HL4.out, by simp; omega, HS6.out⟩
    · have hp' : st'.t.kd = 0 := by omega
      have hkq : ((kk : Int) != (0 : Int)) = false := by
        have : ((kk : Int) == (0 : Int)) = true := by rw [show ((0 : Int)) = ((0 : Nat) : Int) from rfl, hk0]; simp [hp']
        simp [bne, this]
      have hfi : fin = (l, st') := by rw [← HE.out, commands_stop (fun h => hp h.2)]
      subst hfi
      have HCo := hide hco
      have HF : Hid (RX w rb mv s st' (CmsR w l) (.returned (.slice A l.length c)) wr) := by
        obtain ⟨A', c', e', hL⟩ := GRow.cms (l := l) HS.out.row
        injection e' with e1 e2 e3
        subst e1
        exact .inl ⟨HCo.out, ⟨A, c, rfl, hL⟩, HS.out.rdy, HS.out.old⟩
      clear HE HLt hp hp' hok hco HS hk hk0
      go_wp2_with fail
      go_ret
      exact HF.out
end
end Go.Proofs.YtekfledccpeblaaGreatDoor

/- The document's reader in memory; the contracts of its small methods. -/
namespace Go.Proofs.YtekfledccpeblaaGreatDoor
open Go.RowKit

/-- The document's reader's cells. -/
abbrev dcs (s : ByteArray) (k : Int) (t : ByteArray) (a e c f : Int) : Array Value := #[.string s, .int .i64 k, .string t, .int .i64 a, .int .i64 e, .int .i64 c, .int .i64 f]
/-- The document's reader stands at a state. -/
structure DR (w : World) (fb : Nat) (s : ByteArray) (st : FS) : Prop where
  at_ : w.heap[fb]? = some (.cells (dcs s (st.t.kd : Nat) st.t.t (st.t.at_ : Nat) (st.e : Nat) (st.code : Nat) (st.fat : Nat)) 57 (0, 0))
  ok : st.Ok s
  hs : s.size ≤ 200000
  num : st.t.kd = 2 → Digs st.t.t ∧ st.t.t.size ≤ 2
theorem lex_digs {s : ByteArray} {p : Nat} (hp : p ≤ s.size) (h : (lex s p).1.kd = 2) : Digs (lex s p).1.t ∧ (lex s p).1.t.size ≤ 2 := by
  have hle := skip_le hp
  unfold lex at h ⊢
  split at h
  · simp at h
  · rename_i hne
    rw [if_neg hne]
    unfold lexAt at h ⊢
    split at h
    · split at h
      · simp at h
      · split at h
        · simp at h
        · simp at h
    · rename_i ha
      rw [if_neg ha]
      split at h
      · rename_i hd
        rw [if_pos hd]
        split at h
        · simp at h
        · rename_i hn
          rw [if_neg hn]
          refine ⟨run_digs hle.2 rfl, ?_⟩
          simp only [ByteArray.size_extract]
          omega
      · split at h
        · simp at h
        · split at h
          · simp at h
          · simp at h
section
variable {w w' : World} {fb : Nat} {s : ByteArray} {st st' : FS}
theorem DR.lt (h : DR w fb s st) : fb < w.heap.size := (Array.getElem?_eq_some_iff.1 h.at_).1
theorem DR.of_block (h : DR w fb s st) (he : w'.heap[fb]? = w.heap[fb]?) : DR w' fb s st := ⟨he.trans h.at_, h.ok, h.hs, h.num⟩
theorem DR.later (h : DR w fb s st) (hb : Below w.heap.size w w') : DR w' fb s st := h.of_block (hb.block _ h.lt)
theorem DR.alloc (h : DR w fb s st) (o : Obj) : DR (w.alloc o) fb s st := h.of_block (Below.heap_alloc _ _ _ h.lt)
theorem DR.cells (h : DR w fb s st) : w.cell? ⟨fb, 0, none⟩ = some (.string s) ∧ w.cell? ⟨fb, 1, none⟩ = some (.int .i64 (st.t.kd : Nat)) ∧ w.cell? ⟨fb, 2, none⟩ = some (.string st.t.t) ∧ w.cell? ⟨fb, 3, none⟩ = some (.int .i64 (st.t.at_ : Nat)) ∧ w.cell? ⟨fb, 4, none⟩ = some (.int .i64 (st.e : Nat)) ∧ w.cell? ⟨fb, 5, none⟩ = some (.int .i64 (st.code : Nat)) ∧ w.cell? ⟨fb, 6, none⟩ = some (.int .i64 (st.fat : Nat)) ∧ ∀ i, w.frozen? ⟨fb, i, none⟩ = false :=
  ⟨cell_of h.at_ 0 rfl, cell_of h.at_ 1 rfl, cell_of h.at_ 2 rfl, cell_of h.at_ 3 rfl, cell_of h.at_ 4 rfl, cell_of h.at_ 5 rfl, cell_of h.at_ 6 rfl, frozen_of h.at_⟩
end
/-- What a call of the document's reader comes to: an answer, and the reader stands there. -/
def DQ (w : World) (fb : Nat) (s : ByteArray) (st' : FS) (G : Ending → World → Prop) (e : Ending) (w' : World) : Prop := G e w' ∧ DR w' fb s st' ∧ Touched w fb w'
theorem code_cases {s : ByteArray} {st : FS} (h : st.Ok s) : st.code = 0 ∨ st.code = 1 := by have := h.code; omega

section
variable {w : World} {fb : Nat} {s : ByteArray} {st : FS}
set_option maxHeartbeats 1000000 in
theorem dfail_calls (h : DR w fb s st) : Calls Tryz.prog 26 #[.pointer (some ⟨fb, 0, none⟩)] w fun e w' => DQ w fb s st.fail (fun e _ => e = .returned (.tuple #[])) e w' := by
  obtain ⟨c0, c1, c2, c3, c4, c5, c6, cf⟩ := h.cells
  have H := hide h
  have hlt := h.lt
  rcases code_cases h.ok with hc | hc
  · have q1 : ((st.code : Int) == 0) = true := by rw [hc]; rfl
    have HX : Hid (DR ((w.setCell ⟨fb, 5, none⟩ (.int .i64 1)).setCell ⟨fb, 6, none⟩ (.int .i64 (st.t.at_ : Nat))) fb s st.fail) := by
      have e1 : st.fail = { st with code := 1, fat := st.t.at_ } := by unfold FS.fail; rw [if_pos hc]
      rw [e1]
      refine ⟨?_, by have := H.out.ok.fail; rw [e1] at this; exact this, H.out.hs, H.out.num⟩
      simp [World.setCell, Array.getElem?_modify, H.out.at_]
    have HT : Hid (Touched w fb ((w.setCell ⟨fb, 5, none⟩ (.int .i64 1)).setCell ⟨fb, 6, none⟩ (.int .i64 (st.t.at_ : Nat)))) := ((Touched.refl w fb).set 5 _).set 6 _
    clear h hc
    go_enter Tryz.func26, Tryz.ntmps26
    go_wp2_with fail
    go_end0
    exact ⟨rfl, HX.out, HT.out⟩
  · have q1 : ((st.code : Int) == 0) = false := by rw [hc]; rfl
    have HX : Hid (DR w fb s st.fail) := by
      have e1 : st.fail = st := by unfold FS.fail; rw [if_neg (by omega)]
      rw [e1]
      exact H.out
    clear h hc
    go_enter Tryz.func26, Tryz.ntmps26
    go_wp2_with fail
    go_end0
    exact ⟨rfl, HX.out, Touched.refl _ _⟩
theorem tok3 (k : Nat) (t : ByteArray) (a : Nat) : tokV ⟨k, t, a⟩ = .agg #[.int .i64 (k : Nat), .string t, .int .i64 (a : Nat)] := rfl
set_option maxRecDepth 100000 in
set_option maxHeartbeats 4000000 in
theorem dstep_calls (h : DR w fb s st) : Calls Tryz.prog 14 #[.pointer (some ⟨fb, 0, none⟩)] w fun e w' => DQ w fb s (st.step s) (fun e _ => e = .returned (.tuple #[])) e w' := by
  obtain ⟨c0, c1, c2, c3, c4, c5, c6, cf⟩ := h.cells
  have H := hide h
  have hlt := h.lt
  rcases code_cases h.ok with hc | hc
  · have q1 : ((st.code : Int) == 0) = true := by rw [hc]; rfl
    have KL := hide (fun W => lex_calls s st.e W h.ok.le h.hs)
    have e1 : st.step s = { st with t := (lex s st.e).1, e := (lex s st.e).2 } := by unfold FS.step; rw [if_pos hc]
    have HOk : Hid ((st.step s).Ok s) := h.ok.step
    have HSt := hide e1
    clear e1 h hc
    go_enter Tryz.func14, Tryz.ntmps14
    go_wp2_with fail
    go_region_law (first
      | (refine step_below (f := 24) rfl ?_ (KL.out _) ?_
         · simp [go_sem]
         intro w8 hB8
         have hB9 : Below w.heap.size w w8 := (Below.refl w.heap.size w).drew.trans hB8
         obtain ⟨x0, x1, x2, x3, x4, x5, x6, xf⟩ := (H.out.later hB9).cells
         have xl := (H.out.later hB9).lt))
    all_goals
      have HD8 := hide (H.out.later hB9)
      have HB9 := hide hB9
      clear x0 x1 x2 x3 x4 x5 x6 xf xl hB8 hB9
      go_end0
      refine ⟨rfl, ⟨?_, HOk.out, H.out.hs, by rw [HSt.out]; exact lex_digs H.out.ok.le⟩, ?_⟩
      · rw [HSt.out]
        have := HD8.out.at_
        simp [World.setCell, Array.getElem?_modify, this]
      · exact ((((Touched.of_below HB9.out).set _ _).set _ _).set _ _).set _ _
  · have q1 : ((st.code : Int) == 0) = false := by rw [hc]; rfl
    have HX : Hid (DR w fb s (st.step s)) := by
      have e1 : st.step s = st := by unfold FS.step; rw [if_neg (by omega)]
      rw [e1]
      exact H.out
    clear h hc
    go_enter Tryz.func14, Tryz.ntmps14
    go_wp2_with fail
    go_end0
    exact ⟨rfl, HX.out, Touched.refl _ _⟩
set_option maxHeartbeats 1000000 in
theorem dis_calls (h : DR w fb s st) (q : ByteArray) : Calls Tryz.prog 25 #[.pointer (some ⟨fb, 0, none⟩), .string q] w fun e w' => e = .returned (.bool (st.is q)) ∧ w' = w := by
  obtain ⟨c0, c1, c2, c3, c4, c5, c6, cf⟩ := h.cells
  have hlt := h.lt
  have HI : Hid (st.is q = (st.code == 0 && st.t.kd == 3 && decide (st.t.t = q))) := rfl
  rcases code_cases h.ok with hc | hc
  · have q1 : ((st.code : Int) == 0) = true := by rw [hc]; rfl
    by_cases hk : st.t.kd = 3
    · have q2 : ((st.t.kd : Int) == 3) = true := by rw [hk]; rfl
      by_cases hq : st.t.t = q
      · have q3 := sameStr_pos hq
        have HR : Hid (true = st.is q) := hide (by rw [HI.out, hc, hk, hq]; simp)
        clear hk hq h hc
        generalize st.t.t = tt at *
        go_enter Tryz.func25, Tryz.ntmps25
        go_wp2_with fail
        go_ret
        exact ⟨ret_bool HR.out, rfl⟩
      · have q3 := sameStr_neg hq
        have HR : Hid (false = st.is q) := hide (by rw [HI.out]; simp [hq])
        clear hk hq h hc
        generalize st.t.t = tt at *
        go_enter Tryz.func25, Tryz.ntmps25
        go_wp2_with fail
        go_ret
        exact ⟨ret_bool HR.out, rfl⟩
    · have q2 : ((st.t.kd : Int) == 3) = false := by simp; omega
      have HR : Hid (false = st.is q) := hide (by rw [HI.out]; simp [hk])
      clear hk h hc
      go_enter Tryz.func25, Tryz.ntmps25
      go_wp2_with fail
      go_ret
      exact ⟨ret_bool HR.out, rfl⟩
  · have q1 : ((st.code : Int) == 0) = false := by rw [hc]; rfl
    have HR : Hid (false = st.is q) := hide (by rw [HI.out, hc]; simp)
    clear h hc
    go_enter Tryz.func25, Tryz.ntmps25
    go_wp2_with fail
    go_ret
    exact ⟨ret_bool HR.out, rfl⟩
set_option maxHeartbeats 1000000 in
theorem daccept_calls (h : DR w fb s st) (q : ByteArray) : Calls Tryz.prog 28 #[.pointer (some ⟨fb, 0, none⟩), .string q] w fun e w' => DQ w fb s (if st.is q = true then st.step s else st) (fun e _ => e = .returned (.bool (st.is q))) e w' := by
  have KI := hide (dis_calls h q)
  have H := hide h
  cases hi : st.is q with
  | true =>
    have KS := hide (dstep_calls h)
    rw [hi] at KI
    rw [if_pos rfl]
    clear h hi
    go_enter Tryz.func28, Tryz.ntmps28
    go_wp2_with (first | (go_at_call 25; refine KI.out.mono ?_; rintro e w' ⟨rfl, rfl⟩) | (go_at_call 14; refine KS.out.mono ?_; rintro e w2 ⟨rfl, hd, hT⟩; have HD := hide hd; have HT := hide hT; clear hd hT))
    go_ret
    exact ⟨rfl, HD.out, HT.out⟩
  | false =>
    rw [hi] at KI
    rw [if_neg (by simp)]
    clear h hi
    go_enter Tryz.func28, Tryz.ntmps28
    go_wp2_with (go_at_call 25; refine KI.out.mono ?_; rintro e w' ⟨rfl, rfl⟩)
    go_ret
    exact ⟨rfl, H.out, Touched.refl _ _⟩
set_option maxHeartbeats 1000000 in
theorem dmust_calls (h : DR w fb s st) (q : ByteArray) : Calls Tryz.prog 29 #[.pointer (some ⟨fb, 0, none⟩), .string q] w fun e w' => DQ w fb s (st.must s q) (fun e _ => e = .returned (.tuple #[])) e w' := by
  have KA := hide (daccept_calls h q)
  have HM : Hid (st.must s q = if st.is q = true then st.step s else st.fail) := rfl
  cases hi : st.is q with
  | true =>
    rw [hi, if_pos rfl] at KA HM
    clear h hi
    go_enter Tryz.func29, Tryz.ntmps29
    go_wp2_with (go_at_call 28; refine KA.out.mono ?_; rintro e w2 ⟨rfl, hd, hT⟩; have HD := hide hd; have HT := hide hT; clear hd hT)
    go_end0
    exact ⟨rfl, by rw [HM.out]; exact HD.out, HT.out⟩
  | false =>
    rw [hi, if_neg (by simp)] at KA HM
    clear h hi
    go_enter Tryz.func29, Tryz.ntmps29
    go_wp2_with (first | (go_at_call 28; refine KA.out.mono ?_; rintro e w2 ⟨rfl, hd, hT⟩; have KF := hide (dfail_calls hd); have HT := hide hT; clear hd hT) | (go_at_call 26; refine KF.out.mono ?_; rintro e w3 ⟨rfl, hd, hT⟩; have HD := hide hd; have HT3 := hide hT; clear hd hT))
    go_end0
    exact ⟨rfl, by rw [HM.out]; exact HD.out, HT.out.trans HT3.out⟩
set_option maxRecDepth 100000 in
set_option maxHeartbeats 1000000 in
theorem dname_calls (h : DR w fb s st) : Calls Tryz.prog 27 #[.pointer (some ⟨fb, 0, none⟩)] w fun e w' => DQ w fb s (st.name s).2 (fun e _ => e = .returned (.string (st.name s).1)) e w' := by
  obtain ⟨c0, c1, c2, c3, c4, c5, c6, cf⟩ := h.cells
  have hlt := h.lt
  have HA := hide (h.alloc (.cells #[.int .i64 (st.t.kd : Nat), .string st.t.t, .int .i64 (st.t.at_ : Nat)] 55))
  have HTa : Hid (Touched w fb (w.alloc (.cells #[.int .i64 (st.t.kd : Nat), .string st.t.t, .int .i64 (st.t.at_ : Nat)] 55))) := Touched.alloc _ _ _
  have HN : Hid (st.name s = if st.kin 1 = true then (st.t.t, st.step s) else (⟨#[]⟩, st.fail)) := rfl
  have HK : Hid (st.kin 1 = (st.code == 0 && st.t.kd == 1)) := rfl
  have KF := hide (dfail_calls HA.out)
  have KS := hide (dstep_calls HA.out)
  have hbx := hide (heap_alloc_new w (.cells #[.int .i64 (st.t.kd : Nat), .string st.t.t, .int .i64 (st.t.at_ : Nat)] 55))
  have hsz : w.heap.size < (w.alloc (.cells #[.int .i64 (st.t.kd : Nat), .string st.t.t, .int .i64 (st.t.at_ : Nat)] 55)).heap.size := by simp
  by_cases hk : st.kin 1 = true
  · have hk' := hk
    rw [HK.out] at hk'
    simp at hk'
    have q1 : ((st.code : Int) != 0) = false := by rw [hk'.1]; rfl
    have q2 : ((st.t.kd : Int) != 1) = false := by rw [hk'.2]; rfl
    rw [HN.out, if_pos hk]
    clear hk hk' h KF HN HK
    go_enter Tryz.func27, Tryz.ntmps27
    go_upto_region 2 with fail
    generalize (w.alloc (.cells #[.int .i64 (st.t.kd : Nat), .string st.t.t, .int .i64 (st.t.at_ : Nat)] 55)) = W1 at *
    obtain ⟨d0, d1, d2, d3, d4, d5, d6, df⟩ := HA.out.cells
    obtain ⟨y0, y1, y2, -⟩ := cells3 hbx.out
    clear c0 c1 c2 c3 c4 c5 c6 cf
    go_wp2_with (go_at_call 14; refine KS.out.mono ?_; rintro e w2 ⟨rfl, hd, hT⟩; have z1 := (World.cell?_of_block (w' := w2) (hT.at (k := w.heap.size) hsz (by omega))).trans y1; have HD := hide hd; have HT := hide hT; clear hd hT)
    go_ret
    exact ⟨rfl, HD.out, HTa.out.trans HT.out⟩
  · have hn : st.name s = (⟨#[]⟩, st.fail) := by rw [HN.out, if_neg hk]
    rw [hn]
    have hk' : ¬ (st.code = 0 ∧ st.t.kd = 1) := fun h' => hk (by rw [HK.out]; simp [h'])
    clear hk hn KS HN HK
    rcases code_cases h.ok with hc | hc
    · have q1 : ((st.code : Int) != 0) = false := by rw [hc]; rfl
      have q2 : ((st.t.kd : Int) != 1) = true := by simp; omega
      clear h hc hk'
      go_enter Tryz.func27, Tryz.ntmps27
      go_upto_region 2 with fail
      generalize (w.alloc (.cells #[.int .i64 (st.t.kd : Nat), .string st.t.t, .int .i64 (st.t.at_ : Nat)] 55)) = W1 at *
      obtain ⟨d0, d1, d2, d3, d4, d5, d6, df⟩ := HA.out.cells
      obtain ⟨y0, y1, y2, -⟩ := cells3 hbx.out
      clear c0 c1 c2 c3 c4 c5 c6 cf
      go_wp2_with (go_at_call 26; refine KF.out.mono ?_; rintro e w2 ⟨rfl, hd, hT⟩; have HD := hide hd; have HT := hide hT; clear hd hT)
      go_ret
      exact ⟨rfl, HD.out, HTa.out.trans HT.out⟩
    · have q1 : ((st.code : Int) != 0) = true := by rw [hc]; rfl
      clear h hc hk'
      go_enter Tryz.func27, Tryz.ntmps27
      go_upto_region 2 with fail
      generalize (w.alloc (.cells #[.int .i64 (st.t.kd : Nat), .string st.t.t, .int .i64 (st.t.at_ : Nat)] 55)) = W1 at *
      obtain ⟨d0, d1, d2, d3, d4, d5, d6, df⟩ := HA.out.cells
      clear c0 c1 c2 c3 c4 c5 c6 cf
      go_wp2_with (go_at_call 26; refine KF.out.mono ?_; rintro e w2 ⟨rfl, hd, hT⟩; have HD := hide hd; have HT := hide hT; clear hd hT)
      go_ret
      exact ⟨rfl, HD.out, HTa.out.trans HT.out⟩
end
end Go.Proofs.YtekfledccpeblaaGreatDoor
