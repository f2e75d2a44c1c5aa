/- The contract of declarations. -/
import Derived.Test.YtkgkmlikpljbiaaDoorFDecl

namespace Go.Proofs.YtkgkmlikpljbiaaDoor
open Go.RowKit

def DK (D : Nat) (ds : List Dc) (W : World) (S : Nat → Prop) (j : Nat) (v : Value) : Prop := ∃ h : j < ds.length, DeclV W S D ds[j] v
theorem DK.keeps (D : Nat) (ds : List Dc) : Keeps (DK D ds) := fun _ _ _ _ _ _ h ⟨hj, hp⟩ => ⟨hj, hp.keep h⟩

/-- While declarations are read. -/
structure DsRd (w : World) (sc : Nat) (s : ByteArray) (D p : Nat) (ds : List Dc) (pk : Nat) (rv : Value) (W : World) : Prop where
  seq : SeqG (DeclAt s D) ds p pk
  le : pk ≤ s.size
  few : ds.length ≤ pk
  scan : ScAt W sc s pk
  old : Touched w sc W
  row : ∃ xs, GRow (DK D ds) W 45 15 0 w.heap.size ds.length rv xs

/-- What declarations comes to. -/
def DsEnd (w : World) (sc : Nat) (s : ByteArray) (D p : Nat) (e : Ending) (w' : World) : Prop :=
  (∃ ds p' A c xs, DeclsAt s D ds p p' ∧ runTo blankB s p' = s.size ∧ p' ≤ s.size ∧ ds.length ≤ s.size ∧ e = .returned (.slice A ds.length c) ∧ GRow (DK D ds) w' 45 15 0 w.heap.size ds.length (.slice A ds.length c) xs ∧ ScAt w' sc s p' ∧ Touched w sc w') ∨
    ((∀ ds p', DeclsAt s D ds p p' → runTo blankB s p' ≠ s.size) ∧ Thrown w sc e w')

theorem Tryd.info45' : (Tryd.prog.info? 45).map (fun i => (i.zero, i.size, i.bytes)) = some (some (.agg #[.int .i64 0, .string ⟨#[]⟩, .slice none 0 0, .int .i64 0, .int .i64 0, .string ⟨#[]⟩, .slice none 0 0, .slice none 0 0, .int .i64 0, .int .i64 0, .string ⟨#[]⟩, .slice none 0 0, .slice none 0 0, .int .i64 0, .slice none 0 0]), 15, 240) := by kernel_rfl
theorem fifteen_new (w : World) (u0 u1 u2 u3 u4 u5 u6 u7 u8 u9 u10 u11 u12 u13 u14 : Value) (t : TypeId) : ∀ j u, [u0, u1, u2, u3, u4, u5, u6, u7, u8, u9, u10, u11, u12, u13, u14][j]? = some u → (w.alloc (.cells #[u0, u1, u2, u3, u4, u5, u6, u7, u8, u9, u10, u11, u12, u13, u14] t)).cell? ((⟨w.heap.size, 0, none⟩ : Addr).add j) = some u := by
  intro j u h
  rw [Addr.add_lit, Nat.zero_add]
  have hb := heap_alloc_new w (.cells #[u0, u1, u2, u3, u4, u5, u6, u7, u8, u9, u10, u11, u12, u13, u14] t)
  unfold World.cell?
  rw [hb]
  have e : ([u0, u1, u2, u3, u4, u5, u6, u7, u8, u9, u10, u11, u12, u13, u14].toArray)[j]? = some u := by rw [List.getElem?_toArray]; exact h
  exact e

/-- One more. -/
theorem DsRd.next {w wr w2 w6 : World} {sc D p pk n0 : Nat} {s : ByteArray} {d : Dc} {ds : List Dc} {rv v' : Value} {xs : List Value} {a : Array Value} (hn0 : n0 = w.heap.size) (hsc : sc < w.heap.size) (hM : DsRd w sc s D p ds pk rv wr) (hrow : GRow (DK D ds) wr 45 15 0 n0 ds.length rv xs)
    (hB : Touched wr sc w2) (hin : DeclV w2 (fun b => wr.heap.size ≤ b) D d (.agg a)) (ha : a.size = 15)
    (hown : w6.ownsRow n0 45 15 v' (ds.length + 1) (flat xs ++ a.toList)) (hgr : (w2.alloc (.cells a 45)).grownBy w6 rv.ownBlock)
    (hpl : v'.ownBlock = rv.ownBlock ∨ v'.ownBlock = some (w2.alloc (.cells a 45)).heap.size) :
    GRow (DK D (ds ++ [d])) w6 45 15 0 n0 (ds ++ [d]).length v' (xs ++ [.agg a]) ∧ Touched w sc w6 ∧ (∀ b, b < w2.heap.size → b < w.heap.size → w6.heap[b]? = w2.heap[b]?) := by
  subst hn0
  have hzo := hM.old.size
  have hzb := hB.size
  have hlow : ∀ b, b < w.heap.size → rv.ownBlock ≠ some b := fun b hb e => by have := (hrow.own.lt b e).1; omega
  have hblk : ∀ b, b < w2.heap.size → b < w.heap.size → w6.heap[b]? = w2.heap[b]? := fun b hb hbw => by
    rw [hgr.block b (by simp; omega) (fun e => hlow b hbw e.symm), Below.heap_alloc _ _ _ hb]
  refine ⟨?_, ⟨hgr.os.trans (hB.os.trans hM.old.os), hgr.tape.trans (hB.tape.trans hM.old.tape), hgr.output.trans (hB.output.trans hM.old.output), by have := hgr.size; simp at this; omega, fun b hb hne => ?_⟩, hblk⟩
  · have h1 : GRow (DK D (ds ++ [d])) w2 45 15 0 w.heap.size ds.length rv xs := (hrow.touched (DK.keeps _ _) hB hsc).imp fun S j v hj ⟨hj', hv⟩ => ⟨by simp; omega, by rw [List.getElem_append_left hj']; exact hv⟩
    have hl : (ds ++ [d]).length = ds.length + 1 := by simp
    rw [hl]
    refine GRow.push (DK.keeps _ _) h1 (m := wr.heap.size) (Nat.zero_le _) hzo (fun g e => (hrow.own.lt g e).2) (Below.refl _ _) ⟨by simp, ?_⟩ ha hown hgr hpl
    have e1 : (ds ++ [d])[ds.length]'(by simp) = d := by rw [List.getElem_append_right (Nat.le_refl _)]; simp
    rw [e1]
    exact hin.keep fun b _ hb => ⟨.inr hb, rfl⟩
  · rw [hblk b (by omega) hb, hB.block b (by omega) hne]
    exact hM.old.block b hb hne

theorem end_no_decl {s : ByteArray} {D p p1 : Nat} {d : Dc} (h : runTo blankB s p = s.size) (hd : DeclAt s D d p p1) : False := by
  obtain ⟨_, _, _, _, _, _, _, _, h1, _⟩ := hd
  have := h1.1
  omega
theorem names_mono {s : ByteArray} : ∀ {qs : List ByteArray} {p p' : Nat}, NamesAt s qs p p' → p ≤ p'
  | [], _, _, h => by rw [show _ = _ from h]; exact Nat.le_refl _
  | _ :: _, _, _, ⟨_, h1, h2⟩ => by have := h1.lt.1; have := names_mono h2; omega
theorem ctors_mono {s : ByteArray} {D : Nat} (hs : s.size ≤ 200000) : ∀ {cs : List (ByteArray × Tm)} {p p' : Nat}, CtorsAt s D cs p p' → p ≤ p'
  | [], _, _, h => by rw [show _ = _ from h]; exact Nat.le_refl _
  | _ :: _, _, _, ⟨_, ⟨_, _, _, _, h1, h2, h3, h4, h5⟩, h6⟩ => by have := h1.lt; have := h2.lt.1; have := h3.lt.1; have := h4.lt hs; have := h5.lt; have := ctors_mono hs h6; omega
theorem DeclAt.lt {s : ByteArray} {D p p' : Nat} {d : Dc} (hs : s.size ≤ 200000) (h : DeclAt s D d p p') : p < p' ∧ p' ≤ s.size := by
  obtain ⟨a1, a2, a3, a4, a5, a6, a7, a8, h1, _, h2, h3, ⟨b1, b2, g1, g2, g3⟩, h5, h6, h7, h8, h9⟩ := h
  have x1 := h1.lt
  have x2 := h2.lt.1
  have x3 := h3.lt.1
  have x4 := g1.lt
  have x5 : b1 ≤ b2 := names_mono g2
  have x6 := g3.lt
  have x7 : a4 ≤ a5 := by
    rcases h5 with ⟨_, h5⟩ | ⟨_, _, h5⟩
    · have := runTo_ge blankB s a4
      have := digitEnd_ge s (runTo blankB s a4)
      rw [h5.2.2.1]; omega
    · omega
  have x8 := h6.lt hs
  have x9 : a6 ≤ a7 := by
    rcases h7 with ⟨_, h7⟩ | ⟨_, _, h7⟩
    · have := h7.lt hs; omega
    · omega
  have x10 : a7 ≤ a8 := by
    rcases h8 with ⟨_, h8⟩ | ⟨_, _, h8⟩
    · exact ctors_mono hs h8
    · omega
  have x11 := h9.lt
  exact ⟨by omega, h9.le⟩

set_option maxRecDepth 100000 in
set_option maxHeartbeats 16000000 in
theorem decls_total (sc : Nat) (s : ByteArray) (p D : Nat) (w : World) (hs : s.size ≤ 200000) (hp : p ≤ s.size) (h : ScAt w sc s p) (ht : Tabs3 w) (hsc : 7 < sc) (hD : 200000 < D) :
    Calls Tryd.prog 7 #[.pointer (some ⟨sc, 0, none⟩)] w fun e w' => DsEnd w sc s D p e w' := by
  have hlt := h.lt
  have HTb := hide ht
  obtain ⟨i0, hi, hz0, hz1, hz2⟩ := infoParts Tryd.info45'
  have HSt : Hid (DsRd w sc s D p [] p (.slice none 0 0) w) := ⟨rfl, hp, by simp, h, Touched.refl _ _, [], GRow.start _ _ _ _ _ _⟩
  clear h ht
  go_enter Tryd.func7, Tryd.ntmps7
  go_wp2_with fail
  go_loopg [3] (s.size - p) (fun g v wr => ∃ (ds : List Dc) (pk : Nat), pk + g = s.size ∧ Hid (DsRd w sc s D p ds pk v wr))
  case atStart => exact ⟨[], p, by omega, HSt.out⟩
  case round =>
    clear HSt
    obtain ⟨ds, pk, hpk, HM⟩ := hrel
    obtain ⟨xs, hrow⟩ := HM.out.row
    obtain ⟨ao, cc, hu⟩ := own_row_slice hrow.own
    subst hu
    have HR := hide hrow
    clear hrow
    have htw := HTb.out.touched HM.out.old hsc
    have hslt := HM.out.scan.lt
    have KB := hide (before_end sc s pk wr hs HM.out.le HM.out.scan htw.b.a)
    by_cases hc : runTo blankB s pk = s.size
    · rw [show decide (runTo blankB s pk = s.size) = true from by simp [hc]] at KB
      have HX := hide hc
      clear hc
      go_wp2_with (go_at_call 16; refine KB.out.mono ?_)
      intro e W1 h9
      first | (subst h9; intro hb1) | (obtain ⟨rfl, hb1⟩ := h9)
      have HF : Hid (DsEnd w sc s D p (.returned (.slice ao ds.length cc)) W1) := .inl ⟨ds, pk, ao, cc, xs, declsAt_iff.2 HM.out.seq, HX.out, HM.out.le, by have := HM.out.few; have := HM.out.le; omega, rfl, HR.out.later (DK.keeps _ _) hb1, HM.out.scan.below hb1, HM.out.old.trans (Touched.of_below hb1)⟩
      clear hb1 KB htw
      go_wp2_with fail
      go_ret
      exact HF.out
    · rw [show decide (runTo blankB s pk = s.size) = false from by simp [hc]] at KB
      have HNc := hide hc
      clear hc
      go_wp2_with (go_at_call 16; refine KB.out.mono ?_)
      intro e W1 h9
      first | (subst h9; intro hb1) | (obtain ⟨rfl, hb1⟩ := h9)
      have K2 := hide (decl_total sc s pk D W1 hs HM.out.le (HM.out.scan.below hb1) (htw.later hb1) hsc hD)
      have HB1 := hide hb1
      clear hb1 KB htw
      go_wp2_with (go_at_call 17; refine K2.out.mono ?_)
      intro e w2 h9
      rcases h9 with ⟨d, p2, v2, hd2, rfl, hV2, hS2, hT2⟩ | ⟨hno, hth⟩
      rotate_left
      · have HF : Hid (DsEnd w sc s D p e w2) := by
          refine .inr ⟨fun ds' p' g2 g3 => ?_, hth.from (HM.out.old.trans (Touched.of_below HB1.out))⟩
          obtain ⟨zs, _, hz⟩ := SeqG.fit decl_det HM.out.seq (declsAt_iff.1 g2) (fun _ _ h => end_no_decl g3 h)
          cases zs with
          | nil =>
            have e : p' = pk := hz
            subst e
            exact HNc.out g3
          | cons z zs =>
            obtain ⟨_, hz, _⟩ := hz
            exact hno _ _ hz
        obtain ⟨c9, a9, fb, rfl, -⟩ := hth
        go_wp2_with fail
        exact ⟨rfl, HF.out⟩
      have hB : Touched wr sc w2 := (Touched.of_below HB1.out).trans hT2
      have hVr : DeclV w2 (fun b => wr.heap.size ≤ b) D d v2 := hV2.keep fun b _ hb => ⟨Nat.le_trans HB1.out.size hb, rfl⟩
      have HV := hide hVr
      obtain ⟨Ap, cp, kt, nt, nmt, At, lt, ct, At', lt', ct', kv, nv, nmv, Av, lv, cv, Av', lv', cv', Ac, cd, rfl, -, -, -, -⟩ := hV2
      obtain ⟨hlt2, hle2⟩ := hd2.lt hs
      have hzw := HM.out.old.size
      have hz2' := hB.size
      have hfew := HM.out.few
      have hpl := HM.out.le
      have HO5 := hide ((HR.out.own.kept (row := some sc) hB (.inr (fun e => by have := (HR.out.own.lt sc e).1; omega))).alloc (.cells #[.int .i64 (d.kd : Nat), .string d.nm, .slice Ap d.ps.length cp, .int .i64 kt, .int .i64 nt, .string nmt, .slice At lt ct, .slice At' lt' ct', .int .i64 kv, .int .i64 nv, .string nmv, .slice Av lv cv, .slice Av' lv' cv', .int .i64 (d.ar : Nat), .slice Ac d.cs.length cd] 45))
      have HBt := hide hB
      have HS2 := hide hS2
      have HD2 := hide hd2
      clear hB hS2 hT2 hd2 K2 hVr
      go_wp2_with (at_builtin; refine wpList_append_placed _ rfl _ _ 23 rfl w.heap.size 45 i0 _ 15 240 Tryd.underlying23 hi hz0 hz1 hz2 rfl (by decide) (.slice ao ds.length cc) ds.length (flat xs) rfl HO5.out ⟨w2.heap.size, 0, none⟩ 1 1 [.int .i64 (d.kd : Nat), .string d.nm, .slice Ap d.ps.length cp, .int .i64 kt, .int .i64 nt, .string nmt, .slice At lt ct, .slice At' lt' ct', .int .i64 kv, .int .i64 nv, .string nmv, .slice Av lv cv, .slice Av' lv' cv', .int .i64 (d.ar : Nat), .slice Ac d.cs.length cd] rfl rfl (fifteen_new _ _ _ _ _ _ _ _ _ _ _ _ _ _ _ _ _) ?c2 (by decide) ?c3 ?c4 ?c5 ?_)
      case c2 => intro u hu; simp at hu; rcases hu with rfl | rfl | rfl | rfl | rfl | rfl | rfl | rfl | rfl | rfl | rfl | rfl | rfl | rfl | rfl <;> rfl
      case c3 => unfold maxLen; omega
      case c4 => omega
      case c5 => simp; omega
      intro v' w6 hown6 hgr6 hpl6
      obtain ⟨hrow6, hT6, hblk6⟩ := DsRd.next (d := d) rfl (by omega) HM.out HR.out HBt.out HV.out rfl hown6 hgr6 (by simpa using hpl6)
      have HNx : Hid (DsRd w sc s D p (ds ++ [d]) p2 v' w6) := ⟨HM.out.seq.snoc HD2.out, hle2, by simp; omega, HS2.out.of_block (hblk6 sc (by omega) (by omega)), hT6, _, hrow6⟩
      clear hrow6 hT6 hblk6 hown6 hgr6 hpl6
      go_wp2_with fail
      go_roundg (s.size - p2)
      case measure => omega
      case rel => exact ⟨ds ++ [d], p2, by omega, HNx.out⟩

end Go.Proofs.YtkgkmlikpljbiaaDoor
