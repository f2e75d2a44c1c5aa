/- The law: what Print answers is read again, and printed the same. -/
import Derived.Test.YtockffblncdikaaGreatDoorPs
import Derived.Test.YtockffblncdikaaGreatDoorXq
import Derived.Test.YtockffblncdikaaGreatDoorDd
import Derived.Test.YtockffblncdikaaGreatDoorCh
import Derived.Test.YtockffblncdikaaGreatDoorPg
namespace Go.Proofs.YtockffblncdikaaGreatDoor
open Go.RowKit
set_option maxRecDepth 100000
set_option maxHeartbeats 16000000
structure CmFit (c : Cm) : Prop where
 ps : c.ps.length <= 1000000
 bs : c.bs.length <= 1000000000000
 bt : ∀ b ∈ c.bs, ExFit 1000000 b.ty
 ty : ExFit 1000000 c.ty
 vl : ExFit 1000000 c.vl
 ts : c.tcs.length <= 1000000
 tt : ∀ t ∈ c.tcs, t.nms.length <= 1000000 /\ t.xs.length <= 1 /\ ∀ x ∈ t.xs, ExFit 1000000 x
 cs : c.cts.length <= 1000000
 ct : ∀ k ∈ c.cts, ExFit 1000000 k.ty
section
variable {s : ByteArray} {n : Nat}
theorem commas_few : ∀ (m : Nat) (l : List ByteArray) (st : FS), (commasN s m l st).1.length <= l.length + m
 | 0, l, st => by simp [commasN]
 | m + 1, l, st => by
   simp only [commasN]
   split
   . have := commas_few m (l ++ [((st.step s).name s).1]) ((st.step s).name s).2
     rw [List.length_append, List.length_singleton] at this; omega
   . simp
theorem more_few : ∀ (m : Nat) (l : List ByteArray) (st : FS), (moreN s m l st).1.length <= l.length + m
 | 0, l, st => by simp [moreN]
 | m + 1, l, st => by
   simp only [moreN]
   split
   . have := more_few m (l ++ [(st.name s).1]) (st.name s).2
     rw [List.length_append, List.length_singleton] at this; omega
   . simp
theorem tactics_few : ∀ (m : Nat) (l : List Tc) (st : FS), (tacticsN s n m l st).1.length <= l.length + m
 | 0, l, st => by simp [tacticsN]
 | m + 1, l, st => by
   simp only [tacticsN]
   split
   . have := tactics_few m (l ++ [(tacticF s n (st.step s)).1]) (tacticF s n (st.step s)).2
     rw [List.length_append, List.length_singleton] at this; omega
   . simp
theorem ctors_few : ∀ (m : Nat) (l : List Ct) (st : FS), (ctorsN s n m l st).1.length <= l.length + m
 | 0, l, st => by simp [ctorsN]
 | m + 1, l, st => by
   simp only [ctorsN]
   split
   . have := ctors_few m (l ++ [(ctorF s n (st.step s)).1]) (ctorF s n (st.step s)).2
     rw [List.length_append, List.length_singleton] at this; omega
   . simp
theorem commands_few : ∀ (m : Nat) (l : List Cm) (st : FS), (commandsN s n m l st).1.length <= l.length + m
 | 0, l, st => by simp [commandsN]
 | m + 1, l, st => by
   simp only [commandsN]
   split
   . have := commands_few m (l ++ [(commandF s n st).1]) (commandF s n st).2
     rw [List.length_append, List.length_singleton] at this; omega
   . simp
def TcFit (t : Tc) : Prop := t.nms.length <= 1000000 /\ t.xs.length <= 1 /\ ∀ x ∈ t.xs, ExFit 1000000 x
theorem ex_fit (hn : n <= 900000) (st : FS) : ExFit 1000000 (exprN s n st).1 := (exprN_fit s n st).mono (by omega)
theorem tactic_fit (hn : n <= 900000) (st : FS) : TcFit (tacticF s n st).1 := by
 unfold tacticF; generalize (if st.kin 1 = true then wordNo st.t.t tacWords 1 else 0) = k
 simp only
 have hm := more_few (s := s) n [((st.step s).name s).1] ((st.step s).name s).2; rw [List.length_singleton] at hm
 split
 . exact ⟨by simp, by simp, by simp⟩
 split
 . exact ⟨by show (moreN s n _ _).1.length <= _; omega, by simp, by simp⟩
 split
 . exact ⟨by simp, by simp, by simp⟩
 split
 . exact ⟨by simp, by simp, by simp only [List.mem_singleton]; rintro x rfl; exact ex_fit hn _⟩
 split
 . exact ⟨by simp, by simp, by simp only [List.mem_singleton]; rintro x rfl; exact ex_fit hn _⟩
 split
 . split <;> exact ⟨by simp, by simp, by simp⟩
 . exact ⟨by simp, by simp, by simp⟩
theorem tactics_fit (hn : n <= 900000) : ∀ (m : Nat) (l : List Tc) (st : FS), (∀ t ∈ l, TcFit t) -> ∀ t ∈ (tacticsN s n m l st).1, TcFit t
 | 0, l, st, h => by simpa [tacticsN] using h
 | m + 1, l, st, h => by
   simp only [tacticsN]
   split
   . exact tactics_fit hn m _ _ fun t ht => by
      rcases List.mem_append.1 ht with h1 | h1
      . exact h t h1
      . rw [List.mem_singleton.1 h1]; exact tactic_fit hn _
   . exact h
theorem ctors_fit (hn : n <= 900000) : ∀ (m : Nat) (l : List Ct) (st : FS), (∀ k ∈ l, ExFit 1000000 k.ty) -> ∀ k ∈ (ctorsN s n m l st).1, ExFit 1000000 k.ty
 | 0, l, st, h => by simpa [ctorsN] using h
 | m + 1, l, st, h => by
   simp only [ctorsN]
   split
   . exact ctors_fit hn m _ _ fun t ht => by
      rcases List.mem_append.1 ht with h1 | h1
      . exact h t h1
      . rw [List.mem_singleton.1 h1]; exact ex_fit hn _
   . exact h
theorem zero_fit : ExFit 1000000 zeroX := ExFit.zero _ _ _ _ _ _ _ _
theorem command_fit (hn : n <= 900000) (st : FS) : CmFit (commandF s n st).1 := by
 by_cases hk : kindNo st = 0
 . rw [commandF_zero hk]
   exact ⟨by simp [zeroC], by simp [zeroC], by simp [zeroC], zero_fit, zero_fit, by simp [zeroC], by simp [zeroC], by simp [zeroC], by simp [zeroC]⟩
 . rw [commandF_eq hk]
   simp only
   generalize (st.step s).name s = q
   have hps : (paramsF s n q.2).1.length <= n + 1 := by
    unfold paramsF
    split
    . have := commas_few (s := s) n [((q.2.step s).name s).1] ((q.2.step s).name s).2
      rw [List.length_singleton] at this; show (commasN s n _ _).1.length <= _; omega
    . simp
   generalize paramsF s n q.2 = p at *; have hb1 := groupsN_few s n (exprN s n) n [] p.2; have hb2 := groupsN_fit (s := s) (n := n) (N := 1000000) (E := exprN s n) (fun st => ex_fit hn st) n [] p.2 (by simp)
   generalize groupsN s n (exprN s n) n [] p.2 = b at *; have hbig : n * (n + 1) <= 900000 * 900001 := Nat.mul_le_mul hn (by omega); have hbl : b.1.length <= 1000000000000 := by simp at hb1; omega
   have ht := ex_fit (s := s) hn (b.2.must s sColon); generalize exprN s n (b.2.must s sColon) = t at *
   have base : CmFit ⟨kindNo st, st.t.at_, q.1, p.1, b.1, t.1, zeroX, false, [], []⟩ := ⟨by show p.1.length <= _; omega, hbl, hb2, ht, zero_fit, by simp, by simp, by simp, by simp⟩; unfold restF
   split
   . exact ⟨base.ps, base.bs, base.bt, base.ty, ex_fit hn _, base.ts, base.tt, base.cs, base.ct⟩
   split
   . have h1 := tactics_few (s := s) (n := n) n [(tacticF s n (t.2.step s)).1] (tacticF s n (t.2.step s)).2
     rw [List.length_singleton] at h1
     exact ⟨base.ps, base.bs, base.bt, base.ty, base.vl, by show (tacticsN s n n _ _).1.length <= _; omega, tactics_fit hn n _ _ (by simp only [List.mem_singleton]; rintro x rfl; exact tactic_fit hn _), base.cs, base.ct⟩
   split
   . have h1 := ctors_few (s := s) (n := n) n [] t.2
     rw [List.length_nil] at h1; exact ⟨base.ps, base.bs, base.bt, base.ty, base.vl, base.ts, base.tt, by show (ctorsN s n n _ _).1.length <= _; omega, ctors_fit hn n _ _ (by simp)⟩
   . exact base
theorem commands_fit (hn : n <= 900000) : ∀ (m : Nat) (l : List Cm) (st : FS), (∀ c ∈ l, CmFit c) -> ∀ c ∈ (commandsN s n m l st).1, CmFit c
 | 0, l, st, h => by simpa [commandsN] using h
 | m + 1, l, st, h => by
   simp only [commandsN]
   split
   . exact commands_fit hn m _ _ fun t ht => by
      rcases List.mem_append.1 ht with h1 | h1
      . exact h t h1
      . rw [List.mem_singleton.1 h1]; exact command_fit hn _
   . exact h
end
def bytesK (t : List ByteArray) : Nat := (t.map ByteArray.size).sum
theorem bytesK_append (a b : List ByteArray) : bytesK (a ++ b) = bytesK a + bytesK b := by simp [bytesK]
theorem bytesK_cons (a : ByteArray) (b : List ByteArray) : bytesK (a :: b) = a.size + bytesK b := by simp [bytesK]
theorem bytesK_tok : ∀ (t : List ByteArray) (tg : Bool), bytesK t <= (tokT tg t).length
 | [], _ => Nat.zero_le _
 | a :: t, tg => by
   have := bytesK_tok t (hugR a); have e : a.data.toList.length = a.size := by rw [Array.length_toList]; rfl
   rw [bytesK_cons]; show _ <= (blT (tg || hugL a) ++ a.data.toList ++ tokT (hugR a) t).length; rw [List.length_append, List.length_append, e]; omega
theorem bytesK_flat {α : Type} (f : α -> List ByteArray) (l : List α) {x : α} (hx : x ∈ l) : bytesK (f x) <= bytesK (l.flatMap f) := by
 obtain ⟨a, b, rfl⟩ := List.append_of_mem hx; rw [List.flatMap_append, List.flatMap_cons, bytesK_append, bytesK_append]; omega
theorem bytesK_brT (t : List ByteArray) : bytesK t <= bytesK (brT t) := by
 unfold brT; rw [bytesK_cons, bytesK_append]; omega
theorem bytesK_brk (b : Bool) (t : List ByteArray) : bytesK t <= bytesK (brk b t) := by
 unfold brk
 split
 . exact bytesK_brT t
 . exact Nat.le_refl _
theorem bytesK_lat (l : LvB) (t : List ByteArray) : bytesK t <= bytesK (latK l t) := by
 unfold latK
 split
 . exact Nat.le_refl _
 . exact bytesK_brT t
theorem num_pos (k : Nat) : 1 <= (numB k).size := by
 show 1 <= (Lib.decDigits k).length; rw [Lib.decDigits]
 split <;> simp
theorem lw_top (x : LvB) : lw x <= lw (topL x) + 8 := by
 rw [top_lw]
 split <;> omega
theorem lw_bytes : ∀ (x : LvB) (k j : Nat), GoodAt x j -> lw (topL x) + 28 <= 50 * bytesK (lvK x k)
 | .succ a, k, j, h => lw_bytes a (k + 1) (j + 1) h
 | .zero, k, _, _ => by
   have := num_pos k; show 2 + 28 <= 50 * bytesK [numB k]; rw [bytesK_cons]; omega
 | .param q, k, j, h => by
   have := h.2.pos
   have : q.size <= bytesK (lvK (.param q) k) := by
    simp only [lvK]
    split <;> simp only [bytesK_cons, bytesK_append] <;> omega
   show 2 + 28 <= _; omega
 | .max a b, k, j, h => by
   have h1 := lw_bytes a 0 0 h.2.1; have h2 := lw_bytes b 0 0 h.2.2; have h3 := lw_top a; have h4 := lw_top b; have h5 := bytesK_lat a (lvK a 0); have h6 := bytesK_lat b (lvK b 0)
   have : bytesK (lvK a 0) + bytesK (lvK b 0) <= bytesK (lvK (.max a b) k) := by
    simp only [lvK]
    split
    . rw [bytesK_cons, bytesK_append]; omega
    . rw [bytesK_append]
      have := bytesK_brT (wMax :: (latK a (lvK a 0) ++ latK b (lvK b 0))); rw [bytesK_cons, bytesK_append] at this; omega
   show lw a + lw b + 10 + 28 <= _; omega
 | .imax a b, k, j, h => by
   have h1 := lw_bytes a 0 0 h.2.1; have h2 := lw_bytes b 0 0 h.2.2; have h3 := lw_top a; have h4 := lw_top b; have h5 := bytesK_lat a (lvK a 0); have h6 := bytesK_lat b (lvK b 0)
   have : bytesK (lvK a 0) + bytesK (lvK b 0) <= bytesK (lvK (.imax a b) k) := by
    simp only [lvK]
    split
    . rw [bytesK_cons, bytesK_append]; omega
    . rw [bytesK_append]
      have := bytesK_brT (wImax :: (latK a (lvK a 0) ++ latK b (lvK b 0))); rw [bytesK_cons, bytesK_append] at this; omega
   show lw a + lw b + 10 + 28 <= _; omega
theorem lw_few {x : LvB} {k j : Nat} (h : GoodAt x j) : lw x + 20 <= 50 * bytesK (lvK x k) := by
 have h1 := lw_bytes x k j h; have h2 := lw_top x; omega
theorem comma_bytes : ∀ ls : List LvB, (∀ x ∈ ls, GoodAt x 0) -> (ls.map fun l => lw l + 2).sum <= 50 * bytesK (commaK (ls.map fun l => lvK l 0))
 | [], _ => Nat.zero_le _
 | [x], h => by
   have := lw_few (k := 0) (h x (by simp)); show lw x + 2 + 0 <= 50 * bytesK (lvK x 0); omega
 | x :: y :: ls, h => by
   have h1 := lw_few (k := 0) (h x (by simp)); have h2 := comma_bytes (y :: ls) fun z hz => h z (by simp at hz ⊢; exact .inr hz)
   show lw x + 2 + ((y :: ls).map fun l => lw l + 2).sum <= 50 * bytesK (lvK x 0 ++ sComma :: commaK ((y :: ls).map fun l => lvK l 0)); rw [bytesK_append, bytesK_cons]; omega
theorem sort_bytes {l : LvB} (h : GoodAt l 0) : lw l + 52 <= 50 * bytesK (sortK l) := by
 unfold sortK
 split
 . exact (by decide : 2 + 52 <= 50 * 4)
 . exact (by decide : 2 + 8 + 52 <= 50 * 4)
 . have h1 := lw_few (k := 0) h
   have h2 := bytesK_lat l (lvK l 0); rw [bytesK_cons]; have : wSort.size = 4 := rfl; omega
theorem bytesK_bin (q : ByteArray) (im : Bool) (t : List ByteArray) : bytesK t <= bytesK (binK q im t) := by
 unfold binK
 split <;> simp only [bytesK_cons, bytesK_append] <;> omega
theorem Sp.bytes {e : Ex} {t : List ByteArray} (h : Sp e t) : xw e + 26 <= 50 * bytesK t := by
 induction h with
 | name a q ex hq =>
   have := hq.pos; rw [xw_node, bytesK_append, bytesK_cons]
   simp only [List.map_nil, List.sum_nil]
   omega
 | given a q ex l ls hq hg =>
   have := hq.pos; have h2 := comma_bytes (l :: ls) hg; rw [xw_node, bytesK_append, bytesK_append, bytesK_cons]; unfold listK; rw [bytesK_cons, bytesK_append]
   simp only [List.map_nil, List.sum_nil]
   omega
 | hole a =>
   show xw (.node 3 a ⟨#[]⟩ false false false false [] []) + 26 <= 50 * bytesK [sHole]; rw [xw_node]; exact (by decide : 24 + 0 + 0 + 26 <= 50 * 1)
 | sort a l hl =>
   have := sort_bytes hl; show xw (.node 2 a ⟨#[]⟩ false false false false [l] []) + 26 <= _; rw [xw_node]
   simp only [List.map_nil, List.sum_nil, List.map_cons, List.sum_cons]
   omega
 | app a f x t u hf hx hne ihf ihx =>
   have h1 := bytesK_brk (decide (rkX f < 2)) t; have h2 := bytesK_brk (decide (rkX x < 3)) u; show xw (.node 4 a ⟨#[]⟩ false false false false [] [f, x]) + 26 <= _; rw [xw_node, bytesK_append]
   simp only [List.map_nil, List.sum_nil, List.map_cons, List.sum_cons]
   unfold inK; omega
 | eq a b c x y t u hx hy ihx ihy =>
   have h1 := bytesK_brk (decide (rkX x < 2)) t; have h2 := bytesK_brk (decide (rkX y < 2)) u; have e1 : sEq.size = 1 := rfl
   show xw (.node 4 a ⟨#[]⟩ false false false false [] [.node 4 b ⟨#[]⟩ false false false false [] [.node 1 c wEq false false true false [] [], x], y]) + 26 <= _; rw [xw_node, bytesK_append, bytesK_cons]
   simp only [List.map_nil, List.sum_nil, List.map_cons, List.sum_cons, xw_node]
   unfold inK; omega
 | func a q im x e t u hq hx he ihx ihe =>
   have h1 := bytesK_bin q im t; have e1 : wFun.size = 3 := rfl; rw [xw_node, bytesK_append, bytesK_cons, bytesK_cons]
   simp only [List.map_nil, List.sum_nil, List.map_cons, List.sum_cons]
   omega
 | all a q im x e t u hq hx he ihx ihe =>
   have h1 := bytesK_bin q im t; rw [xw_node, bytesK_append, bytesK_cons, bytesK_cons]
   simp only [List.map_nil, List.sum_nil, List.map_cons, List.sum_cons]
   omega
 | arrow a x e t u hx he ihx ihe =>
   have h1 := bytesK_brk (decide (rkX x < 1)) t; rw [xw_node, bytesK_append, bytesK_cons]
   simp only [List.map_nil, List.sum_nil, List.map_cons, List.sum_cons]
   unfold inK; omega
 | lets a q x v b t u y hq hx hv hb ihx ihv ihb =>
   rw [xw_node]
   simp only [List.cons_append, bytesK_cons, bytesK_append, List.map_nil, List.sum_nil, List.map_cons, List.sum_cons]
   omega
 | is a e x t u he hx ihe ihx =>
   rw [xw_node]
   simp only [bytesK_cons, bytesK_append, List.map_nil, List.sum_nil, List.map_cons, List.sum_cons]
   omega
theorem textG_eq (s : ByteArray) : textG s = textF s := (textF_ag s (2 * s.size + 2) (by omega)).symm
theorem textG_good {s : ByteArray} (h : (textG s).2.code = 0) : ∀ c ∈ (textG s).1, GCm c := by
 rw [textG_eq] at h ⊢; exact textF_good s h
theorem textG_fit {s : ByteArray} (h : s.size <= 200000) : ∀ c ∈ (textG s).1, CmFit c := commands_fit (s := s) (n := 2 * s.size + 2) (by omega) _ [] _ (by simp)
theorem textG_few {s : ByteArray} (h : s.size <= 200000) : (textG s).1.length <= 1000000 := by
 have := commands_few (s := s) (n := 2 * s.size + 2) (2 * s.size + 2) [] (FS.step s st00); rw [List.length_nil] at this; show (commandsN s _ _ _ _).1.length <= _; omega
theorem vl_good {c : Cm} (h : GCm c) (hv : c.kd = 2 \/ (c.kd = 3 /\ c.tac = false)) : GX c.vl := by
 have := h.vl; rw [if_pos hv] at this; exact this
theorem tacsK_bytes (tf : Ex -> List ByteArray) {t : Tc} : ∀ (l : List Tc) (q : ByteArray), t ∈ l -> bytesK (tacK tf t) <= bytesK (tacsK tf q l)
 | u :: l, q, h => by
   simp only [tacsK, List.cons_append, bytesK_cons, bytesK_append]
   rcases List.mem_cons.1 h with rfl | h
   . omega
   . have := tacsK_bytes tf l sSemi h
     omega
section
variable {tf : Ex -> List ByteArray} (htf : ∀ e, GX e -> Sp e (tf e))
include htf
theorem cmAll_of {c : Cm} (h : GCm c) (hf : CmFit c) : CmAll tf c := by
 refine ⟨⟨h.kd, by have := h.nm.few; omega, fun q hq => by have := (h.ps q hq).few; omega, hf.ps, fun b hb => ⟨by have := (h.bs b hb).1.few; omega, htf _ (h.bs b hb).2, hf.bt b hb⟩, hf.bs, ⟨htf _ h.ty, hf.ty⟩, fun hv => ⟨htf _ (vl_good h hv), hf.vl⟩, fun k hk => ⟨htf _ (h.cts k hk).ty, hf.ct k hk, by have := (h.cts k hk).nm.few; omega⟩, hf.cs⟩, fun t ht => ?_, hf.ts⟩
 have hg := h.tcs t ht; refine ⟨hg.kinds, ?_, fun e he => ⟨htf e (gtc_xs hg e he), (hf.tt t ht).2.2 e he⟩, fun q hq => by have := (hg.nms q hq).few; omega, (hf.tt t ht).1, by have := (hf.tt t ht).2.1; omega⟩
 by_cases h10 : t.kd = 10
 . exact hg.num10 h10
 . rw [hg.shape.1 h10]
   decide
theorem light_of {c : Cm} (h : GCm c) (hl : (tokT true (comK tf c)).length <= 200000) : CmLight c := by
 have hb : bytesK (comK tf c) <= 200000 := Nat.le_trans (bytesK_tok _ _) hl
 have key : ∀ (e : Ex) (t : List ByteArray), Sp e t -> bytesK t <= bytesK (comK tf c) -> xw e + 10 <= 33554432 := fun e t hs ht => by
  have := hs.bytes; omega
 have e0 : bytesK (comK tf c) = bytesK ([kindW c.kd, c.nm] ++ parK c.ps) + bytesK (c.bs.flatMap (bindK tf)) + bytesK (sColon :: tf c.ty) + bytesK (tailK tf c) + bytesK [sDot] := by
  unfold comK
  simp only [bytesK_append]
 have hbs : ∀ b ∈ c.bs, xw b.ty + 10 <= 33554432 := fun b hb => key _ _ (htf _ (h.bs b hb).2) (by
  have h1 := bytesK_bin b.nm b.im (tf b.ty); have h2 := bytesK_flat (bindK tf) c.bs hb; have h3 : bytesK (bindK tf b) = bytesK (binK b.nm b.im (tf b.ty)) := rfl; omega)
 have hty : xw c.ty + 10 <= 33554432 := key _ _ (htf _ h.ty) (by simp only [bytesK_cons] at e0; omega)
 have hvl : c.kd = 2 \/ (c.kd = 3 /\ c.tac = false) -> xw c.vl + 10 <= 33554432 := fun hv => key _ _ (htf _ (vl_good h hv)) (by
  have e1 : tailK tf c = sBe :: tf c.vl := by
   unfold tailK
   rw [if_neg (by omega), if_neg (by rintro ⟨h1, h2⟩; rcases hv with h3 | ⟨_, h3⟩; · omega
                                     . rw [h2] at h3; cases h3), if_neg (by omega)]
  rw [e1] at e0
  simp only [bytesK_cons] at e0
  omega)
 have hct : ∀ k ∈ c.cts, xw k.ty + 10 <= 33554432 := fun k hk => key _ _ (htf _ (h.cts k hk).ty) (by
  have e1 : tailK tf c = c.cts.flatMap (ctorK tf) := by
   unfold tailK; rw [if_pos (h.some (fun e => by rw [e] at hk; simp at hk))]
  have h2 := bytesK_flat (ctorK tf) c.cts hk; have h3 : bytesK (ctorK tf k) = bytesK [sBar, k.nm] + bytesK (sColon :: tf k.ty) := by unfold ctorK; rw [bytesK_append]
  simp only [bytesK_cons] at h3
  rw [e1] at e0; omega)
 have htc : ∀ t ∈ c.tcs, ∀ e ∈ t.xs, xw e + 10 <= 33554432 := fun t ht e he => key _ _ (htf _ (gtc_xs (h.tcs t ht) e he)) (by
  have hta : c.tac = true := by
   cases e : c.tac with
   | true => rfl
   | false => have := h.none e; rw [this] at ht; simp at ht
  have hk3 := (h.tac hta).1
  have e1 : tailK tf c = tacsK tf wBy c.tcs := by
   unfold tailK; rw [if_neg (by omega), if_pos ⟨hk3, hta⟩]
  have h2 := tacsK_bytes tf c.tcs wBy ht; have h3 := bytesK_flat tf t.xs he
  have h4 : bytesK (t.xs.flatMap tf) <= bytesK (tacK tf t) := by
   unfold tacK
   simp only [bytesK_append]
   omega
  rw [e1] at e0; omega)
 exact ⟨⟨hbs, hty, hvl, hct⟩, htc⟩
theorem lights_of {cs : List Cm} (h : ∀ c ∈ cs, GCm c) (hl : (linesK tf cs).length <= 200000) : (∀ c ∈ cs, CmLight c) /\ (linesK tf cs).length < 8388608 := by
 refine ⟨fun c hc => light_of htf (h c hc) ?_, by omega⟩; obtain ⟨a, b, rfl⟩ := List.append_of_mem hc; unfold linesK at hl
 rw [List.flatMap_append, List.flatMap_cons, List.length_append, List.length_append, List.length_append] at hl; omega
theorem again (s : ByteArray) (hs : (textG s).2.code = 0) (q : ByteArray) (hq : q.data.toList = linesK tf (textG s).1) : (textG q).2.code = 0 /\ linesK tf (textG q).1 = linesK tf (textG s).1 := by
 have hg := textG_good hs; rw [textG_eq] at hs hq hg ⊢; rw [textG_eq]; obtain ⟨N1, r1⟩ := files_text htf hg; obtain ⟨N2, r2⟩ := text_again_same s hs
 have hq1 : q.data.toList = fileText (N1 + N2) (textF s).1 := hq.trans (r1 _ (by omega)).symm; obtain ⟨h1, h2⟩ := r2 (N1 + N2) (by omega) q hq1; obtain ⟨N3, r3⟩ := files_text htf (textF_good q h1); refine ⟨h1, ?_⟩
 have e1 := r3 (N1 + N3) (by omega); rw [h2, r1 _ (by omega)] at e1; exact e1.symm
end
theorem no_text : (textG ⟨#[]⟩).2.code = 0 /\ (textG ⟨#[]⟩).1 = [] := by decide +kernel
def fixedT : ByteArray := ⟨#[100,101,102,32,102,32,40,120,32,121,32,58,32,65,32,45,62,32,66,41,32,58,32,102,111,114,97,108,108,32,123,122,32,58,32,67,125,44,32,40,120,32,61,32,121,41,32,45,62,32,68,32,58,61,32,102,117,110,32,97,32,40,98,32,58,32,95,41,32,61,62,32,64,103,46,123,117,43,49,125,32,40,97,32,98,41,46]⟩
def printedT : List UInt8 := [100,101,102,32,102,32,40,120,32,58,32,65,32,45,62,32,66,41,32,40,121,32,58,32,65,32,45,62,32,66,41,32,58,32,102,111,114,97,108,108,32,123,122,32,58,32,67,125,44,32,120,32,61,32,121,32,45,62,32,68,32,58,61,32,102,117,110,32,40,97,32,58,32,95,41,32,61,62,32,102,117,110,32,40,98,32,58,32,95,41,32,61,62,32,64,103,46,123,117,43,49,125,32,40,97,32,98,41,46,10]
theorem fixed_ok : (textF fixedT).2.code = 0 := by decide +kernel
theorem fixed_one : (textF fixedT).1.length = 1 := by decide +kernel
theorem fixed_text (n : Nat) : fileText (n + 12) (textF fixedT).1 = printedT := by kernel_rfl
theorem fixed_lines {tf : Ex -> List ByteArray} (htf : ∀ e, GX e -> Sp e (tf e)) : linesK tf (textG fixedT).1 = printedT := by
 rw [textG_eq]; obtain ⟨N, h⟩ := files_text htf (textF_good fixedT fixed_ok); rw [<- fixed_text N]; exact (h (N + 12) (by omega)).symm
theorem str_toArray {s : ByteArray} {l : List UInt8} (h : s.data.toList = l) : s = ⟨l.toArray⟩ := by
 cases s; simp at h; subst h; simp
theorem texts_apart {s : ByteArray} {code a : Nat} (h : TextBad s code a) : ¬ (s.size <= 200000 /\ (textG s).2.code = 0) := fun h' => by
 rcases h with ⟨h1, h2, -⟩ | ⟨h1, -⟩
 . exact h2 h'.2
 . omega
def ParseR (W : World) (S : ByteArray) (e : Ending) (w' : World) : Prop :=
 (∃ (A : Option Addr) (c : Nat), e = .returned (.tuple #[.slice A (textG S).1.length c, .nilIface]) /\ Hid (Below W.heap.size W w' /\ S.size <= 200000 /\ (textG S).2.code = 0 /\ CmsIn w' (fun b => b < w'.heap.size) A (textG S).1)) \/
 (∃ N : Nat, e = .returned (.tuple #[.slice none 0 0, .iface 41 (.pointer (some ⟨N, 0, none⟩))]) /\ Hid (Below W.heap.size W w' /\ ¬ (S.size <= 200000 /\ (textG S).2.code = 0)))
theorem parse2_calls (S : ByteArray) (W : World) (hm : S.size <= maxLen) (ht : Tb W) : Calls Tryz.prog 4 #[.string S] W fun e w' => ParseR W S e w' := by
 refine (parse_calls S W hm ht).mono ?_; rintro e w' (⟨A, c, hi, he, hc, hb⟩ | ⟨code, a, hb, N, he, -, -, hl⟩)
 . exact .inl ⟨A, c, he, hide ⟨hb, hi.1, hi.2, hc.keep fun b hb _ => ⟨hb, rfl⟩⟩⟩
 . exact .inr ⟨N, he, hide ⟨hl, texts_apart hb⟩⟩
section
variable {tf : Ex -> List ByteArray} (htf : ∀ e, GX e -> Sp e (tf e))
include htf
theorem all_of {S : ByteArray} (hs : S.size <= 200000) (hc : (textG S).2.code = 0) : ∀ c ∈ (textG S).1, CmAll tf c := fun c hm => cmAll_of htf (textG_good hc c hm) (textG_fit hs c hm)
theorem print_exact (S : ByteArray) (hs : S.size <= 200000) (hc : (textG S).2.code = 0) (hl : (linesK tf (textG S).1).length <= 200000) {A : Option Addr} {c : Nat} (w : World) (hT : Tb w) (hin : CmsIn w (fun b => b < w.heap.size) A (textG S).1) :
 Calls Tryz.prog 5 #[.slice A (textG S).1.length c] w fun e w' => e = .returned (.string ⟨(linesK tf (textG S).1).toArray⟩) /\ Below w.heap.size w w' := by
 refine (pprint_calls (B := False) tf _ w hT hin (all_of htf hs hc) (textG_few hs) (.inr (lights_of htf (textG_good hc) hl))).mono ?_; rintro e w' ⟨s, rfl, H⟩; obtain ⟨hb, hp⟩ := H.out
 rcases hp with ⟨h, -⟩ | ⟨h1, h2⟩
 . exact h.elim
 . rcases h1 with h1 | h1
   . exact h1.elim
   . rw [str_toArray (h2 h1)]
     exact ⟨rfl, hb⟩
theorem print_some (S : ByteArray) (hs : S.size <= 200000) (hc : (textG S).2.code = 0) {A : Option Addr} {c : Nat} (w : World) (hT : Tb w) (hin : CmsIn w (fun b => b < w.heap.size) A (textG S).1) :
 Calls Tryz.prog 5 #[.slice A (textG S).1.length c] w fun e w' => ∃ s : ByteArray, e = .returned (.string s) /\ Hid (Below w.heap.size w w' /\ (s.size <= 200000 -> (textG s).2.code = 0 /\ linesK tf (textG s).1 = s.data.toList)) := by
 refine (pprint_calls (B := True) tf _ w hT hin (all_of htf hs hc) (textG_few hs) (.inl trivial)).mono ?_; rintro e w' ⟨s, rfl, H⟩; obtain ⟨hb, hp⟩ := H.out; refine ⟨s, rfl, hide ⟨hb, fun hs2 => ?_⟩⟩
 rcases hp with ⟨-, rfl⟩ | ⟨-, h2⟩
 . rw [no_text.2]
   exact ⟨no_text.1, rfl⟩
 . have h3 := h2 (by omega)
   obtain ⟨h4, h5⟩ := again htf S hc s h3; exact ⟨h4, h5.trans h3.symm⟩
end
def SomeS (tf : Ex -> List ByteArray) (W : World) (e : Ending) (w' : World) : Prop := ∃ s : ByteArray, e = .returned (.string s) /\ Hid (Below W.heap.size W w' /\ (s.size <= 200000 -> (textG s).2.code = 0 /\ linesK tf (textG s).1 = s.data.toList))
def IsOps (w : World) (a : Option Addr) (len : Nat) : Prop := len <= maxLen /\ ∀ i, i < len -> ∃ (b off : Nat) (S : ByteArray), a = some ⟨b, off, none⟩ /\ S.size <= maxLen /\ w.cell? ⟨b, off + i * 6 + 1, none⟩ = some (.string S)
theorem reads_walk (ad : Option Addr) (len cap : Nat) (w : World) (h : IsOps w ad len) (ht : Tb w) :
 Calls Tryz.prog 3 #[.slice ad len cap] w fun e w' => e = .returned (.bool true) /\ Below w.heap.size w w' := by
 obtain ⟨tf, htf⟩ := Sp.fn; obtain ⟨hm, hc⟩ := h; unfold maxLen at hm; have HC := hide hc
 have KP : Hid (∀ W S, Below w.heap.size w W -> S.size <= maxLen -> Calls Tryz.prog 4 #[.string S] W fun e w' => ParseR W S e w') := hide fun W S hb hS => parse2_calls S W hS (ht.later hb)
 have K1 : Hid (Calls Tryz.prog 4 #[.string fixedT] w fun e w' => ∃ (A : Option Addr) (c : Nat), e = .returned (.tuple #[.slice A 1 c, .nilIface]) /\ Hid (Below w.heap.size w w' /\ ∀ W, Below w'.heap.size w' W -> Calls Tryz.prog 5 #[.slice A 1 c] W fun e2 w2 => e2 = .returned (.string ⟨#[100,101,102,32,102,32,40,120,32,58,32,65,32,45,62,32,66,41,32,40,121,32,58,32,65,32,45,62,32,66,41,32,58,32,102,111,114,97,108,108,32,123,122,32,58,32,67,125,44,32,120,32,61,32,121,32,45,62,32,68,32,58,61,32,102,117,110,32,40,97,32,58,32,95,41,32,61,62,32,102,117,110,32,40,98,32,58,32,95,41,32,61,62,32,64,103,46,123,117,43,49,125,32,40,97,32,98,41,46,10]⟩) /\ Below w.heap.size w w2)) := hide (by
  have hz : fixedT.size = 87 := rfl; have hok : (textG fixedT).2.code = 0 := by rw [textG_eq]; exact fixed_ok
  have hone : (textG fixedT).1.length = 1 := by rw [textG_eq]; exact fixed_one
  refine (parse2_calls fixedT w (by unfold maxLen; omega) ht).mono ?_; rintro e w' (⟨A, c, he, H⟩ | ⟨N, -, H⟩)
  . obtain ⟨hb, hs, hc0, hin⟩ := H.out
    rw [hone] at he; refine ⟨A, c, he, hide ⟨hb, fun W hW => ?_⟩⟩; have hbW : Below w.heap.size w W := hb.trans (hW.mono hb.size)
    have := print_exact htf fixedT hs hok (by rw [fixed_lines htf]; decide) (c := c) W (ht.later hbW) (hin.keep fun b hb _ => ⟨Nat.lt_of_lt_of_le hb hW.size, hW.block b hb⟩); rw [hone, fixed_lines htf] at this
    exact this.mono fun e2 w2 ⟨h1, h2⟩ => ⟨h1, hbW.trans (h2.mono hbW.size)⟩
  . exact absurd ⟨by omega, hok⟩ H.out.2)
 have KG : Hid (∀ (W : World) (S : ByteArray) (A : Option Addr) (c : Nat), Below w.heap.size w W -> S.size <= 200000 -> (textG S).2.code = 0 -> CmsIn W (fun b => b < W.heap.size) A (textG S).1 -> Calls Tryz.prog 5 #[.slice A (textG S).1.length c] W fun e w' => SomeS tf W e w') := hide fun W S A c hb hs hc hin => print_some htf S hs hc W (ht.later hb) hin
 have KA : Hid (∀ (W : World) (s : ByteArray) (A : Option Addr) (c : Nat), Below w.heap.size w W -> s.size <= 200000 -> (textG s).2.code = 0 -> linesK tf (textG s).1 = s.data.toList -> CmsIn W (fun b => b < W.heap.size) A (textG s).1 -> Calls Tryz.prog 5 #[.slice A (textG s).1.length c] W fun e w' => e = .returned (.string s) /\ Below W.heap.size W w') := hide fun W s A c hb hs hc hl hin => by
  have hsz : s.data.toList.length = s.size := by rw [Array.length_toList]; rfl
  have := print_exact htf s hs hc (by rw [hl, hsz]; exact hs) (c := c) W (ht.later hb) hin; rw [hl] at this; exact this
 clear hc ht htf
 go_enter Tryz.func3, Tryz.ntmps3
 go_wp2_with (go_at_call 4; refine K1.out.mono ?_; rintro e w1 ⟨A1, c1, rfl, H1⟩)
 refine (H1.out.2 w1 (Below.refl _ _)).mono ?_; rintro e w2 ⟨rfl, hb2⟩; have HB0 := hide hb2; clear hb2 H1 K1
 go_wp2_with fail
 go_loopg [6] (len) (fun g i wr => ∃ k : Nat, k + g = len /\ i = .int .i64 k /\ Hid (Below w.heap.size w wr))
 case atStart => exact ⟨0, by omega, rfl, HB0⟩
 case round =>
  clear HB0; obtain ⟨k, hkg, rfl, HB⟩ := hrel
  by_cases hlt : k < len
  . by_cases hmax : (k : Int) < 1152921504606846976
    . obtain ⟨bk, off, S, rfl, hS, c1⟩ := HC.out k hlt
      have d1 := cell_later HB.out c1; have hbl : bk < wr.heap.size := World.block_lt_of_cell? _ _ d1; have K4 := hide (KP.out wr S HB.out hS); clear c1
      go_wp2_with (go_at_call 4; refine K4.out.mono ?_)
      intro e w1 h9; clear K4
      rcases h9 with ⟨A, c, rfl, H⟩ | ⟨N, rfl, H⟩
      . obtain ⟨hb1, hs1, hc1, hin1⟩ := H.out
        have HB1 := hide (HB.out.trans (hb1.mono HB.out.size)); have K5 := hide (KG.out w1 S A c HB1.out hs1 hc1 hin1); generalize (textG S).1.length = n at *; clear H hb1 hs1 hc1 hin1
        go_wp2_with (go_at_call 5; refine K5.out.mono ?_)
        intro e w2 h9; obtain ⟨s, rfl, H2⟩ := h9; clear K5; have HB2 := hide (HB1.out.trans (H2.out.1.mono HB1.out.size)); clear HB1
        by_cases hs : s.size <= 200000
        . have q1 : decide ((200000 : Int) < (s.size : Int)) = false := by simp; omega
          have q2 : ¬ (200000 : Int) < (s.size : Int) := by omega
          obtain ⟨hc2, hl2⟩ := H2.out.2 hs; have HL := hide hl2; have HCo := hide hc2; have K6 := hide (KP.out w2 s HB2.out (by unfold maxLen; omega)); clear H2 hc2 hl2
          go_wp2_with (go_at_call 4; refine K6.out.mono ?_)
          intro e w3 h9; clear K6
          rcases h9 with ⟨A2, c2, rfl, H3⟩ | ⟨N, rfl, H3⟩
          rotate_left
          . exact absurd ⟨hs, HCo.out⟩ H3.out.2
          obtain ⟨hb3, hs3, hc3, hin3⟩ := H3.out; have HB3 := hide (HB2.out.trans (hb3.mono HB2.out.size)); have K7 := hide (KA.out w3 s A2 c2 HB3.out hs3 hc3 HL.out hin3); clear H3 hb3 hs3 hc3 hin3 HL HCo HB2
          generalize (textG s).1.length = n2 at *
          go_wp2_with (go_at_call 5; refine K7.out.mono ?_)
          intro e w4 h9
          first | (subst h9; intro hb4) | (obtain ⟨rfl, hb4⟩ := h9)
          have HB4 := hide (HB3.out.trans (hb4.mono HB3.out.size)); clear hb4 K7 HB3
          go_wp2_with fail
          go_roundg (len - (k + 1))
          case measure => omega
          case rel => exact ⟨k + 1, by omega, by go_num, HB4⟩
        . have q1 : decide ((200000 : Int) < (s.size : Int)) = true := by simp; omega
          have q2 : (200000 : Int) < (s.size : Int) := by omega
          clear H2
          go_wp2_with fail
          go_roundg (len - (k + 1))
          case measure => omega
          case rel => exact ⟨k + 1, by omega, by go_num, HB2⟩
      . have HB1 := hide (HB.out.trans (H.out.1.mono HB.out.size))
        clear H
        go_wp2_with fail
        go_roundg (len - (k + 1))
        case measure => omega
        case rel => exact ⟨k + 1, by omega, by go_num, HB1⟩
    . have q : decide ((k : Int) < 1152921504606846976) = false := by simp; omega
      go_wp2_with fail
      go_ret; exact ⟨rfl, HB.out⟩
  . go_wp2_with fail
    go_ret; exact ⟨rfl, HB.out⟩
end Go.Proofs.YtockffblncdikaaGreatDoor
