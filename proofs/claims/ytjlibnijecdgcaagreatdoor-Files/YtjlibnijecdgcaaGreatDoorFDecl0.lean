/- The contract of ctors: constructors up to a closing bracket. -/
import Derived.Test.YtjlibnijecdgcaaGreatDoorFPar

namespace Go.Proofs.YtjlibnijecdgcaaGreatDoor
open Go.RowKit

section
variable {K K' : World → (Nat → Prop) → Nat → Value → Prop} {W W' : World} {T z n0 k sc : Nat} {rv : Value} {xs : List Value}
/-- A row stands where the scanner alone has moved. -/
theorem GRow.touched (hK : Keeps K) (h : GRow K W T z 0 n0 k rv xs) (ht : Touched W sc W') (hsc : sc < n0) : GRow K W' T z 0 n0 k rv xs :=
  ⟨h.own.kept (row := some sc) ht (.inr (fun e => by have := (h.own.lt sc e).1; omega)), h.len, h.forms, fun j hj => hK _ _ _ _ _ _ (fun b hbl hS => ⟨hS, ht.at hbl (by have := hS.1; omega)⟩) (h.parts j hj)⟩
theorem GRow.imp (h : GRow K W T z 0 n0 k rv xs) (hi : ∀ S j v, j < k → K W S j v → K' W S j v) : GRow K' W T z 0 n0 k rv xs :=
  ⟨h.own, h.len, h.forms, fun j hj => hi _ _ _ (by rw [← h.len]; exact hj) (h.parts j hj)⟩
end

/-- A constructor's cells. -/
def CtorV (W : World) (S : Nat → Prop) (D : Nat) (c : ByteArray × Tm) (v : Value) : Prop :=
  ∃ (k n : Int) (nm : ByteArray) (A : Option Addr) (la lc : Nat) (A' : Option Addr) (ta tc : Nat), v = .agg #[.string c.1, .int .i64 k, .int .i64 n, .string nm, .slice A la lc, .slice A' ta tc] ∧ InTm W S D c.2 (.agg #[.int .i64 k, .int .i64 n, .string nm, .slice A la lc, .slice A' ta tc])
def CK (D : Nat) (cs : List (ByteArray × Tm)) (W : World) (S : Nat → Prop) (j : Nat) (v : Value) : Prop := ∃ h : j < cs.length, CtorV W S D cs[j] v
theorem CtorV.keep {W W' : World} {S S' : Nat → Prop} {D : Nat} {c : ByteArray × Tm} {v : Value} (h : ∀ b, b < W.heap.size → S b → S' b ∧ W'.heap[b]? = W.heap[b]?) (hv : CtorV W S D c v) : CtorV W' S' D c v := by
  obtain ⟨k, n, nm, A, la, lc, A', ta, tc, e, hi⟩ := hv
  exact ⟨k, n, nm, A, la, lc, A', ta, tc, e, hi.keep h⟩
theorem CK.keeps (D : Nat) (cs : List (ByteArray × Tm)) : Keeps (CK D cs) := fun _ _ _ _ _ _ h ⟨hj, hp⟩ => ⟨hj, hp.keep h⟩

/-- While constructors are read. -/
structure CtsRd (w : World) (sc : Nat) (s : ByteArray) (D p : Nat) (cs : List (ByteArray × Tm)) (pk : Nat) (rv : Value) (W : World) : Prop where
  seq : SeqG (CtorAt s D) cs p pk
  le : pk ≤ s.size
  few : cs.length ≤ pk
  scan : ScAt W sc s pk
  old : Touched w sc W
  row : ∃ xs, GRow (CK D cs) W 64 6 0 w.heap.size cs.length rv xs

/-- What ctors comes to: the constructors ahead of a closing bracket, or a throw where none stands ahead of it. -/
def CtsEnd (w : World) (sc : Nat) (s : ByteArray) (D p : Nat) (e : Ending) (w' : World) : Prop :=
  (∃ cs p' A c xs, CtorsAt s D cs p p' ∧ (tok s p').t = ⟨#[41]⟩ ∧ p' ≤ s.size ∧ cs.length ≤ s.size ∧ e = .returned (.slice A cs.length c) ∧ GRow (CK D cs) w' 64 6 0 w.heap.size cs.length (.slice A cs.length c) xs ∧ ScAt w' sc s p' ∧ Touched w sc w') ∨
    (∃ a, bCts s D p a ∧ Thrown w sc a e w')

theorem Tryz.info64' : (Tryz.prog.info? 64).map (fun i => (i.zero, i.size, i.bytes)) = some (some (.agg #[.string ⟨#[]⟩, .int .i64 0, .int .i64 0, .string ⟨#[]⟩, .slice none 0 0, .slice none 0 0]), 6, 96) := by kernel_rfl
theorem six_new (w : World) (a b c d e f : Value) (t : TypeId) : ∀ j u, [a, b, c, d, e, f][j]? = some u → (w.alloc (.cells #[a, b, c, d, e, f] t)).cell? ((⟨w.heap.size, 0, none⟩ : Addr).add j) = some u := by
  intro j u h
  rw [Addr.add_lit, Nat.zero_add]
  have hb := heap_alloc_new w (.cells #[a, b, c, d, e, f] t)
  unfold World.cell?
  rw [hb]
  match j, h with
  | 0, h => simpa using h
  | 1, h => simpa using h
  | 2, h => simpa using h
  | 3, h => simpa using h
  | 4, h => simpa using h
  | 5, h => simpa using h
  | j + 6, h => simp at h

/-- One more. -/
theorem CtsRd.next {w wr w2 w6 : World} {sc D p pk n0 : Nat} {s q : ByteArray} {t : Tm} {cs : List (ByteArray × Tm)} {rv v' : Value} {xs : List Value} {k n : Int} {nm : ByteArray} {A : Option Addr} {la lc : Nat} {A' : Option Addr} {ta tc : Nat} (hn0 : n0 = w.heap.size) (hsc : sc < w.heap.size) (hM : CtsRd w sc s D p cs pk rv wr) (hrow : GRow (CK D cs) wr 64 6 0 n0 cs.length rv xs)
    (hB : Touched wr sc w2) (hin : InTm w2 (fun b => wr.heap.size ≤ b) D t (.agg #[.int .i64 k, .int .i64 n, .string nm, .slice A la lc, .slice A' ta tc]))
    (hown : w6.ownsRow n0 64 6 v' (cs.length + 1) (flat xs ++ [.string q, .int .i64 k, .int .i64 n, .string nm, .slice A la lc, .slice A' ta tc])) (hgr : (w2.alloc (.cells #[.string q, .int .i64 k, .int .i64 n, .string nm, .slice A la lc, .slice A' ta tc] 64)).grownBy w6 rv.ownBlock)
    (hpl : v'.ownBlock = rv.ownBlock ∨ v'.ownBlock = some (w2.alloc (.cells #[.string q, .int .i64 k, .int .i64 n, .string nm, .slice A la lc, .slice A' ta tc] 64)).heap.size) :
    GRow (CK D (cs ++ [(q, t)])) w6 64 6 0 n0 (cs ++ [(q, t)]).length v' (xs ++ [.agg #[.string q, .int .i64 k, .int .i64 n, .string nm, .slice A la lc, .slice A' ta tc]]) ∧ Touched w sc w6 ∧ (∀ b, b < w2.heap.size → b < w.heap.size → w6.heap[b]? = w2.heap[b]?) := by
  subst hn0
  have hzo := hM.old.size
  have hzb := hB.size
  have hlow : ∀ b, b < w.heap.size → rv.ownBlock ≠ some b := fun b hb e => by have := (hrow.own.lt b e).1; omega
  have hblk : ∀ b, b < w2.heap.size → b < w.heap.size → w6.heap[b]? = w2.heap[b]? := fun b hb hbw => by
    rw [hgr.block b (by simp; omega) (fun e => hlow b hbw e.symm), Below.heap_alloc _ _ _ hb]
  refine ⟨?_, ⟨hgr.os.trans (hB.os.trans hM.old.os), hgr.tape.trans (hB.tape.trans hM.old.tape), hgr.output.trans (hB.output.trans hM.old.output), by have := hgr.size; simp at this; omega, fun b hb hne => ?_⟩, hblk⟩
  · have h1 : GRow (CK D (cs ++ [(q, t)])) w2 64 6 0 w.heap.size cs.length rv xs := (hrow.touched (CK.keeps _ _) hB hsc).imp fun S j v hj ⟨hj', hv⟩ => ⟨by simp; omega, by rw [List.getElem_append_left hj']; exact hv⟩
    have hl : (cs ++ [(q, t)]).length = cs.length + 1 := by simp
    rw [hl]
    refine GRow.push (CK.keeps _ _) h1 (m := wr.heap.size) (Nat.zero_le _) hzo (fun g e => (hrow.own.lt g e).2) (Below.refl _ _) ⟨by simp, ?_⟩ rfl hown hgr hpl
    have e1 : (cs ++ [(q, t)])[cs.length]'(by simp) = (q, t) := by rw [List.getElem_append_right (Nat.le_refl _)]; simp
    rw [e1]
    exact ⟨k, n, nm, A, la, lc, A', ta, tc, rfl, hin.keep fun b _ hb => ⟨.inr hb, rfl⟩⟩
  · rw [hblk b (by omega) hb, hB.block b (by omega) hne]
    exact hM.old.block b hb hne

set_option maxRecDepth 100000 in
set_option maxHeartbeats 16000000 in
theorem ctors_total (sc : Nat) (s : ByteArray) (p D : Nat) (w : World) (hs : s.size ≤ 200000) (hp : p ≤ s.size) (h : ScAt w sc s p) (ht : Tabs3 w) (hsc : 11 < sc) (hD : 200000 < D) :
    Calls Tryz.prog 53 #[.pointer (some ⟨sc, 0, none⟩)] w fun e w' => CtsEnd w sc s D p e w' := by
  have hlt := h.lt
  have HTb := hide ht
  obtain ⟨i0, hi, hz0, hz1, hz2⟩ := infoParts Tryz.info64'
  have HSt : Hid (CtsRd w sc s D p [] p (.slice none 0 0) w) := ⟨rfl, hp, by simp, h, Touched.refl _ _, [], GRow.start _ _ _ _ _ _⟩
  clear h ht
  go_enter Tryz.func53, Tryz.ntmps53
  go_wp2_with fail
  go_loopg [3] (s.size - p) (fun g v wr => ∃ (cs : List (ByteArray × Tm)) (pk : Nat), pk + g = s.size ∧ Hid (CtsRd w sc s D p cs pk v wr))
  case atStart => exact ⟨[], p, by omega, HSt.out⟩
  case round =>
    clear HSt
    obtain ⟨cs, pk, hpk, HM⟩ := hrel
    obtain ⟨xs, hrow⟩ := HM.out.row
    obtain ⟨ao, cc, hu⟩ := own_row_slice hrow.own
    subst hu
    have HR := hide hrow
    clear hrow
    have htw := HTb.out.touched HM.out.old hsc
    have hslt := HM.out.scan.lt
    have KB := hide (before_calls sc s pk wr hs HM.out.le HM.out.scan htw.b.a)
    by_cases hc : (tok s pk).t = ⟨#[41]⟩
    · rw [show decide ((tok s pk).t = ⟨#[41]⟩) = true from by simp [hc]] at KB
      have HX := hide hc
      clear hc
      go_wp2_with (go_at_call 31; refine KB.out.mono ?_)
      intro e W1 h9
      first | (subst h9; intro hb1) | (obtain ⟨rfl, hb1⟩ := h9)
      have HF : Hid (CtsEnd w sc s D p (.returned (.slice ao cs.length cc)) W1) := .inl ⟨cs, pk, ao, cc, xs, ctorsAt_iff.2 HM.out.seq, HX.out, HM.out.le, by have := HM.out.few; have := HM.out.le; omega, rfl, HR.out.later (CK.keeps _ _) hb1, HM.out.scan.below hb1, HM.out.old.trans (Touched.of_below hb1)⟩
      clear hb1 KB htw
      go_wp2_with fail
      go_ret
      exact HF.out
    · rw [show decide ((tok s pk).t = ⟨#[41]⟩) = false from by simp [hc]] at KB
      have HNc := hide hc
      clear hc
      have HNo : Hid (∀ a, bCtor s D pk a → bCts s D p a) := fun a h => ⟨cs, pk, HM.out.seq, fun q h => HNc.out (tok_of_shut h), h⟩
      clear HNc
      go_wp2_with (go_at_call 31; refine KB.out.mono ?_)
      intro e W1 h9
      first | (subst h9; intro hb1) | (obtain ⟨rfl, hb1⟩ := h9)
      have K2 := hide (sign_total sc s pk _ hs HM.out.le ((HM.out.scan.below hb1).alloc (.cells #[.int .i64 1] 71)) ((htw.later hb1).alloc (.cells #[.int .i64 1] 71)) hsc 40 1 (.inl ⟨rfl, rfl⟩) (.slice (some ⟨W1.heap.size, 0, none⟩) 1 1) (kinds1 1) (fun b n cap e => by injection e with e; injection e with e; injection e with e; have := hb1.size; omega))
      have HT1 := hide ((Touched.of_below hb1).trans (Touched.alloc W1 sc (.cells #[.int .i64 1] 71)))
      clear hb1 KB htw
      go_wp2_with (go_at_call 30; refine K2.out.mono ?_)
      intro e w2 h9
      rcases h9 with ⟨v2, p1, hs2, rfl, hS2, hT2⟩ | ⟨hno, hth⟩
      rotate_left
      · have HF : Hid (CtsEnd w sc s D p e w2) := .inr ⟨_, HNo.out _ (.inl ⟨hno, rfl⟩), hth.from (HM.out.old.trans HT1.out)⟩
        obtain ⟨fb, rfl, -⟩ := hth
        go_wp2_with fail
        exact ⟨rfl, HF.out⟩
      have HT2 := hide (HT1.out.trans hT2)
      have K3 := hide (cword_total sc s p1 w2 hs hs2.le hS2 (HTb.out.touched (HM.out.old.trans HT2.out) hsc) hsc)
      have HG1 := hide hs2
      clear hT2 hS2 hs2 K2 HT1
      go_wp2_with (go_at_call 47; refine K3.out.mono ?_)
      intro e w3 h9
      rcases h9 with ⟨v3, p2, hs3, rfl, hS3, hT3⟩ | ⟨hno, hth⟩
      rotate_left
      · have HF : Hid (CtsEnd w sc s D p e w3) := .inr ⟨_, HNo.out _ (.inr ⟨(), p1, HG1.out, .inl ⟨hno, rfl⟩⟩), hth.from (HM.out.old.trans HT2.out)⟩
        obtain ⟨fb, rfl, -⟩ := hth
        go_wp2_with fail
        exact ⟨rfl, HF.out⟩
      have HT3 := hide (HT2.out.trans hT3)
      have K4 := hide (name_total sc s p2 w3 hs hs3.le hS3 (HTb.out.touched (HM.out.old.trans HT3.out) hsc) hsc)
      have HG2 := hide hs3
      clear hT3 hS3 hs3 K3 HT2
      go_wp2_with (go_at_call 49; refine K4.out.mono ?_)
      intro e w4 h9
      rcases h9 with ⟨v4, p3, ⟨q, rfl, hs4⟩, rfl, hS4, hT4⟩ | ⟨hno, hth⟩
      rotate_left
      · have HF : Hid (CtsEnd w sc s D p e w4) := .inr ⟨_, HNo.out _ (.inr ⟨(), p1, HG1.out, .inr ⟨(), p2, HG2.out, .inl ⟨hno, rfl⟩⟩⟩), hth.from (HM.out.old.trans HT3.out)⟩
        obtain ⟨fb, rfl, -⟩ := hth
        go_wp2_with fail
        exact ⟨rfl, HF.out⟩
      have HT4 := hide (HT3.out.trans hT4)
      have K5 := hide (term_got sc s p3 w4 hs hs4.le hS4 (HTb.out.touched (HM.out.old.trans HT4.out) hsc) hsc D hD)
      have HG3 := hide hs4
      clear hT4 hS4 hs4 K4 HT3
      go_wp2_with (go_at_call 52; refine K5.out.mono ?_)
      intro e w5 h9
      rcases h9 with ⟨t, p4, hs5, kt, nt, nmt, At, lat, lct, At', tat, tct, rfl, hin5, hS5, hT5⟩ | ⟨aft, hft, hth⟩
      rotate_left
      · have HF : Hid (CtsEnd w sc s D p e w5) := .inr ⟨_, HNo.out _ (.inr ⟨(), p1, HG1.out, .inr ⟨(), p2, HG2.out, .inr ⟨q, p3, HG3.out, .inl hft⟩⟩⟩), hth.from (HM.out.old.trans HT4.out)⟩
        obtain ⟨fb, rfl, -⟩ := hth
        go_wp2_with fail
        exact ⟨rfl, HF.out⟩
      have hT5' := HT4.out.trans hT5
      have hz4 := HT4.out.size
      have hz5 := hT5'.size
      have hzo := HM.out.old.size
      have hfew := HM.out.few
      have hple := HM.out.le
      have HO5 := hide ((HR.out.own.kept (row := some sc) hT5' (.inr (fun e => by have := (HR.out.own.lt sc e).1; omega))).alloc (.cells #[.string q, .int .i64 kt, .int .i64 nt, .string nmt, .slice At lat lct, .slice At' tat tct] 64))
      have HI5 := hide hin5
      have HS5 := hide hS5
      have HT5 := hide hT5'
      have HG4 := hide hs5
      have h5le := hs5.le
      clear hT5 hT5' hin5 hS5 hs5 K5
      go_wp2_with (at_builtin; refine wpList_append_placed _ rfl _ _ 44 rfl w.heap.size 64 i0 _ 6 96 Tryz.underlying44 hi hz0 hz1 hz2 rfl (by decide) (.slice ao cs.length cc) cs.length (flat xs) rfl HO5.out ⟨w5.heap.size, 0, none⟩ 1 1 [.string q, .int .i64 kt, .int .i64 nt, .string nmt, .slice At lat lct, .slice At' tat tct] rfl rfl (six_new _ _ _ _ _ _ _ _) ?c2 (by decide) ?c3 ?c4 ?c5 ?_)
      case c2 => intro u hu; simp at hu; rcases hu with rfl | rfl | rfl | rfl | rfl | rfl <;> rfl
      case c3 => unfold maxLen; omega
      case c4 => omega
      case c5 => simp; omega
      intro v' w6 hown6 hgr6 hpl6
      obtain ⟨hrow6, hT6, hblk6⟩ := CtsRd.next (t := t) rfl (by omega) HM.out HR.out HT5.out (HI5.out.keep fun b _ hb => ⟨by omega, rfl⟩) hown6 hgr6 (by simpa using hpl6)
      have hS6 : ScAt w6 sc s p4 := HS5.out.of_block (hblk6 sc (by omega) (by omega))
      have K7 := hide (sign_total sc s p4 _ hs h5le ((hS6).alloc (.cells #[.int .i64 2] 71)) ((HTb.out.touched hT6 hsc).alloc (.cells #[.int .i64 2] 71)) hsc 41 2 (.inr ⟨rfl, rfl⟩) (.slice (some ⟨w6.heap.size, 0, none⟩) 1 1) (kinds1 2) (fun b n cap e => by injection e with e; injection e with e; injection e with e; have := hS6.lt; omega))
      have HR6 := hide hrow6
      have HT6 := hide hT6
      have hS6l := hS6.lt
      clear hrow6 hT6 hblk6 hown6 hgr6 hpl6 hS6 HO5
      go_wp2_with (go_at_call 30; refine K7.out.mono ?_)
      intro e w7 h9
      rcases h9 with ⟨v7, p5, hs7, rfl, hS7, hT7⟩ | ⟨hno, hth⟩
      rotate_left
      · have HF : Hid (CtsEnd w sc s D p e w7) := .inr ⟨_, HNo.out _ (.inr ⟨(), p1, HG1.out, .inr ⟨(), p2, HG2.out, .inr ⟨q, p3, HG3.out, .inr ⟨t, p4, HG4.out, hno, rfl⟩⟩⟩⟩), hth.from (HT6.out.trans (Touched.alloc w6 sc _))⟩
        obtain ⟨fb, rfl, -⟩ := hth
        go_wp2_with fail
        exact ⟨rfl, HF.out⟩
      have hT8 : Touched w6 sc w7 := (Touched.alloc w6 sc _).trans hT7
      have hlt5 : pk < p5 := by have := HG1.out.lt; have := HG2.out.lt.1; have := HG3.out.lt.1; have := HG4.out.lt hs; have := hs7.lt; omega
      have h7le := hs7.le
      have HNx : Hid (CtsRd w sc s D p (cs ++ [(q, t)]) p5 v' w7) := ⟨HM.out.seq.snoc ⟨p1, p2, p3, p4, HG1.out, HG2.out, HG3.out, HG4.out, hs7⟩, hs7.le, by simp; omega, hS7, HT6.out.trans hT8, _, HR6.out.touched (CK.keeps _ _) hT8 (by omega)⟩
      clear hT8 hT7 hS7 hs7 K7 HNo
      go_wp2_with fail
      go_roundg (s.size - p5)
      case measure => omega
      case rel => exact ⟨cs ++ [(q, t)], p5, by omega, HNx.out⟩

end Go.Proofs.YtjlibnijecdgcaaGreatDoor

/- The contract of declaration. -/
namespace Go.Proofs.YtjlibnijecdgcaaGreatDoor
open Go.RowKit

/-- Names lie in a row. -/
def NmsIn (W : World) (S : Nat → Prop) (A : Option Addr) (ps : List ByteArray) : Prop := ∀ i (hi : i < ps.length), ∃ b, A = some ⟨b, 0, none⟩ ∧ S b ∧ W.cell? ⟨b, i, none⟩ = some (.string ps[i])
/-- Six cells of a block. -/
def Six (W : World) (b o : Nat) (v : Value) : Prop := ∃ u0 u1 u2 u3 u4 u5, v = .agg #[u0, u1, u2, u3, u4, u5] ∧ W.cell? ⟨b, o, none⟩ = some u0 ∧ W.cell? ⟨b, o + 1, none⟩ = some u1 ∧ W.cell? ⟨b, o + 2, none⟩ = some u2 ∧ W.cell? ⟨b, o + 3, none⟩ = some u3 ∧ W.cell? ⟨b, o + 4, none⟩ = some u4 ∧ W.cell? ⟨b, o + 5, none⟩ = some u5
/-- Constructors lie in a row. -/
def CtsIn (W : World) (S : Nat → Prop) (D : Nat) (A : Option Addr) (cs : List (ByteArray × Tm)) : Prop := ∀ i (hi : i < cs.length), ∃ b v, A = some ⟨b, 0, none⟩ ∧ S b ∧ Six W b (i * 6) v ∧ CtorV W S D cs[i] v
/-- A declaration's cells. -/
def DeclV (W : World) (S : Nat → Prop) (D : Nat) (d : Dc) (v : Value) : Prop :=
  ∃ (Ap : Option Addr) (cp : Nat) (kt nt : Int) (nmt : ByteArray) (At : Option Addr) (lt ct : Nat) (At' : Option Addr) (lt' ct' : Nat) (kv nv : Int) (nmv : ByteArray) (Av : Option Addr) (lv cv : Nat) (Av' : Option Addr) (lv' cv' : Nat) (Ac : Option Addr) (cc : Nat), v = .agg #[.int .i64 (d.kd : Nat), .string d.nm, .slice Ap d.ps.length cp, .int .i64 kt, .int .i64 nt, .string nmt, .slice At lt ct, .slice At' lt' ct', .int .i64 kv, .int .i64 nv, .string nmv, .slice Av lv cv, .slice Av' lv' cv', .int .i64 (d.ar : Nat), .slice Ac d.cs.length cc] ∧
    NmsIn W S Ap d.ps ∧ InTm W S D d.ty (.agg #[.int .i64 kt, .int .i64 nt, .string nmt, .slice At lt ct, .slice At' lt' ct']) ∧ InTm W S D d.vl (.agg #[.int .i64 kv, .int .i64 nv, .string nmv, .slice Av lv cv, .slice Av' lv' cv']) ∧ CtsIn W S D Ac d.cs ∧ d.ps.length ≤ cp

section
variable {W W' : World} {S S' : Nat → Prop} {D : Nat} (h : ∀ b, b < W.heap.size → S b → S' b ∧ W'.heap[b]? = W.heap[b]?)
include h
theorem NmsIn.keep {A : Option Addr} {ps : List ByteArray} (hv : NmsIn W S A ps) : NmsIn W' S' A ps := fun i hi => by
  obtain ⟨b, e, hb, hc⟩ := hv i hi
  have := h b (World.block_lt_of_cell? _ _ hc) hb
  exact ⟨b, e, this.1, (World.cell?_of_block this.2).trans hc⟩
theorem CtsIn.keep {A : Option Addr} {cs : List (ByteArray × Tm)} (hv : CtsIn W S D A cs) : CtsIn W' S' D A cs := fun i hi => by
  obtain ⟨b, v, e, hb, ⟨u0, u1, u2, u3, u4, u5, ev, c0, c1, c2, c3, c4, c5⟩, hV⟩ := hv i hi
  have hx := h b (World.block_lt_of_cell? _ _ c0) hb
  exact ⟨b, v, e, hx.1, ⟨u0, u1, u2, u3, u4, u5, ev, (World.cell?_of_block hx.2).trans c0, (World.cell?_of_block hx.2).trans c1, (World.cell?_of_block hx.2).trans c2, (World.cell?_of_block hx.2).trans c3, (World.cell?_of_block hx.2).trans c4, (World.cell?_of_block hx.2).trans c5⟩, hV.keep h⟩
theorem DeclV.keep {d : Dc} {v : Value} (hv : DeclV W S D d v) : DeclV W' S' D d v := by
  obtain ⟨Ap, cp, kt, nt, nmt, At, lt, ct, At', lt', ct', kv, nv, nmv, Av, lv, cv, Av', lv', cv', Ac, cc, e, h1, h2, h3, h4⟩ := hv
  exact ⟨Ap, cp, kt, nt, nmt, At, lt, ct, At', lt', ct', kv, nv, nmv, Av, lv, cv, Av', lv', cv', Ac, cc, e, h1.keep h, h2.keep h, h3.keep h, h4.1.keep h, h4.2⟩
end
theorem own_cap {W : World} {base n c m : Nat} {A : Option Addr} {xs : List Value} (h : W.ownsRow base 9 1 (.slice A n c) m xs) : m ≤ c := by
  rcases h.2 with ⟨_, h0⟩ | ⟨g, cap, cur, e, _, _, hc, _⟩
  · omega
  · injection e with e1 e2 e3
    omega
theorem NmsIn.of_own {W : World} {base n c : Nat} {A : Option Addr} {ps : List ByteArray} (h : W.ownsRow base 9 1 (.slice A n c) ps.length (ps.map .string)) : NmsIn W (fun b => base ≤ b) A ps := fun i hi => by
  rcases h.2 with ⟨_, h0⟩ | ⟨g, cap, cur, e, hb, _⟩
  · omega
  · injection e with e1 e2 e3
    subst e1
    refine ⟨g, rfl, hb, ?_⟩
    have := h.cells (g := g) rfl i (.string ps[i]) (by simp [hi])
    rw [Addr.add_lit] at this
    simpa using this
theorem CtsIn.of_row {W : World} {D n0 n c : Nat} {A : Option Addr} {cs : List (ByteArray × Tm)} {xs : List Value} (h : GRow (CK D cs) W 64 6 0 n0 cs.length (.slice A n c) xs) : CtsIn W (fun b => n0 ≤ b) D A cs := fun i hi => by
  obtain ⟨A1, c1, e, hp⟩ := h.out (CK.keeps _ _)
  injection e with e1 e2 e3
  subst e1
  obtain ⟨g, a, ea, hg, hz, hc, _, hv⟩ := hp i hi
  obtain ⟨k, n, nm, B, la, lc, B', ta, tc, ev, hin⟩ := hv
  injection ev with ev
  subst ev
  refine ⟨g, _, ea, hg, ⟨_, _, _, _, _, _, rfl, by simpa using hc 0 (by omega), by simpa using hc 1 (by omega), by simpa using hc 2 (by omega), by simpa using hc 3 (by omega), by simpa using hc 4 (by omega), by simpa using hc 5 (by omega)⟩, ?_⟩
  exact ⟨k, n, nm, B, la, lc, B', ta, tc, rfl, hin.keep fun b _ hb => ⟨by omega, rfl⟩⟩

/-- What declaration comes to. -/
def DeclEnd (w : World) (sc : Nat) (s : ByteArray) (D p : Nat) (e : Ending) (w' : World) : Prop :=
  (∃ d p' v, DeclAt s D d p p' ∧ e = .returned v ∧ DeclV w' (fun b => w.heap.size ≤ b) D d v ∧ ScAt w' sc s p' ∧ Touched w sc w') ∨ (∃ a, bDecl s D p a ∧ Thrown w sc a e w')

/-- The beginning of a declaration stands there. -/
structure Begun (s : ByteArray) (p kd : Nat) (nm : ByteArray) (ps : List ByteArray) (p1 p2 p3 p4 : Nat) : Prop where
  o : SignAt s 40 p p1
  k : 1 ≤ kd ∧ kd ≤ 3
  w : WordAt s (dword kd) p1 p2
  n : WordAt s nm p2 p3
  ps : ParamsAt s ps p3 p4
/-- Where what follows fails, the declaration does. -/
theorem Begun.bad {s : ByteArray} {D p kd p1 p2 p3 p4 a : Nat} {nm : ByteArray} {ps : List ByteArray} (h : Begun s p kd nm ps p1 p2 p3 p4)
    (hb : Then (OnlyIf (kd = 3) 0 (NumAt s)) (bOnlyIf (kd = 3) (bNum s)) (fun _ => Then (RT s D) (FT s D) fun _ => Then (OnlyIf (kd = 2) zeroT (RT s D)) (bOnlyIf (kd = 2) (FT s D)) fun _ => Then (OnlyIf (kd = 3) [] (CtsShut s D)) (bOnlyIf (kd = 3) (bCts s D)) fun _ => bSign s 41) p4 a) : bDecl s D p a :=
  .inr ⟨(), p1, h.o, .inr ⟨kd, p2, ⟨h.k, h.w⟩, .inr ⟨nm, p3, h.n, .inr ⟨ps, p4, h.ps, hb⟩⟩⟩⟩

end Go.Proofs.YtjlibnijecdgcaaGreatDoor
