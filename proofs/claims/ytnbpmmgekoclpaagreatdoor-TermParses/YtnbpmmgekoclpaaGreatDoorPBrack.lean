/- The contract of the scanner's termInBrackets, behind a word of terms. -/
import Derived.Test.YtnbpmmgekoclpaaGreatDoorPBrackA
namespace Go.Proofs.YtnbpmmgekoclpaaGreatDoor
open Go.RowKit

/-- The shape has come. -/
def PShape (w : World) (sc : Nat) (s : ByteArray) (c kd p2 : Nat) (wx : World) : Prop :=
  TVar 30 wx c kd 0 ⟨#[]⟩ (.slice none 0 0) (.slice none 0 0) ∧ wx.cell? ⟨c + 1, 1, none⟩ = some (.bool (decide (kd = 2))) ∧ wx.cell? ⟨c + 1, 2, none⟩ = some (.int .i64 (lvn kd)) ∧ wx.cell? ⟨c + 1, 3, none⟩ = some (.int .i64 (tparts kd : Nat)) ∧ ScAt wx sc s p2 ∧ Touched (w.alloc ztm) sc wx ∧ wx.heap.size = c + 2

/-- What a bracket's inside comes to: a term, or a throw. -/
def BrkEnd (w : World) (sc : Nat) (s : ByteArray) (d : Nat) (t : Tm) (p' : Nat) (fin : Option Nat) (e : Ending) (w' : World) : Prop := (fin = none → TermOf w sc s d t p' e w') ∧ (∀ a, fin = some a → Threw w sc 1 a e w')

theorem BrkEnd.bad {w w' : World} {sc d p' a : Nat} {s : ByteArray} {t : Tm} {e : Ending} (h : Threw w sc 1 a e w') : BrkEnd w sc s d t p' (some a) e w' := ⟨fun e => (by cases e), fun a' e => (by cases e; exact h)⟩
theorem BrkEnd.good {w w' : World} {sc d p' : Nat} {s : ByteArray} {t : Tm} {e : Ending} (h : TermOf w sc s d t p' e w') : BrkEnd w sc s d t p' none e w' := ⟨fun _ => h, fun a' e => (by cases e)⟩

theorem Seq.le {s : ByteArray} {d : Nat} : ∀ {ts : List Tm} {p p' : Nat}, Seq (RT s d) ts p p' → p ≤ s.size → p' ≤ s.size
  | [], _, _, h, hp => by rw [show _ = _ from h]; exact hp
  | _ :: _, _, _, ⟨_, h1, h2⟩, _ => Seq.le h2 h1.le

/-- A shape's rows of the table. -/
theorem TTab.rows {w : World} (h : TTab w) (kd : Nat) (h1 : 1 ≤ kd) (h2 : kd ≤ 6) : ∃ q, w.cell? ⟨1, kd * 4, none⟩ = some (.string q) ∧ w.cell? ⟨1, kd * 4 + 1, none⟩ = some (.bool (decide (kd = 2))) ∧ w.cell? ⟨1, kd * 4 + 2, none⟩ = some (.int .i64 (lvn kd)) ∧ w.cell? ⟨1, kd * 4 + 3, none⟩ = some (.int .i64 (tparts kd : Nat)) := by
  have hk : kd = 1 ∨ kd = 2 ∨ kd = 3 ∨ kd = 4 ∨ kd = 5 ∨ kd = 6 := by omega
  rcases hk with rfl | rfl | rfl | rfl | rfl | rfl
  · exact ⟨_, h.c 4 _ rfl, h.c 5 _ rfl, h.c 6 _ rfl, h.c 7 _ rfl⟩
  · exact ⟨_, h.c 8 _ rfl, h.c 9 _ rfl, h.c 10 _ rfl, h.c 11 _ rfl⟩
  · exact ⟨_, h.c 12 _ rfl, h.c 13 _ rfl, h.c 14 _ rfl, h.c 15 _ rfl⟩
  · exact ⟨_, h.c 16 _ rfl, h.c 17 _ rfl, h.c 18 _ rfl, h.c 19 _ rfl⟩
  · exact ⟨_, h.c 20 _ rfl, h.c 21 _ rfl, h.c 22 _ rfl, h.c 23 _ rfl⟩
  · exact ⟨_, h.c 24 _ rfl, h.c 25 _ rfl, h.c 26 _ rfl, h.c 27 _ rfl⟩

/-- The name has come. -/
def PNamed (w : World) (sc : Nat) (s : ByteArray) (c kd p3 : Nat) (nm : ByteArray) (wx : World) : Prop :=
  TVar 30 wx c kd 0 nm (.slice none 0 0) (.slice none 0 0) ∧ wx.cell? ⟨c + 1, 2, none⟩ = some (.int .i64 (lvn kd)) ∧ wx.cell? ⟨c + 1, 3, none⟩ = some (.int .i64 (tparts kd : Nat)) ∧ ScAt wx sc s p3 ∧ Touched (w.alloc ztm) sc wx ∧ c + 2 ≤ wx.heap.size

theorem levels_part (s : ByteArray) (hs : s.size ≤ 20000) (sc p3 p4 kd : Nat) (hsc : 6 < sc) (hp3 : p3 ≤ s.size) (ls : List LvB) (h : LvPart s kd ls p3 p4) (w : World) (hS : ScAt w sc s p3) (ht : Tabs w) :
    Calls Tryz.prog 36 #[.pointer (some ⟨sc, 0, none⟩), .int .i64 (lvn kd)] w fun e w' => LevsEnd w sc s ls p4 none e w' := by
  rcases h with ⟨rfl, l, rfl, hr⟩ | ⟨rfl, hr, htk⟩ | ⟨h1, h2, rfl, rfl⟩
  · exact levels_count s hs sc p3 p4 hsc hp3 [l] 1 (by simp) (by omega) ⟨p4, hr, rfl⟩ none ⟨fun _ => rfl, fun a e => by cases e⟩ w hS ht
  · exact levels_free s hs sc p3 p4 hsc hp3 ls hr none ⟨fun _ => htk, fun a e => by cases e⟩ w hS ht
  · have e : lvn kd = ((0 : Nat) : Int) := by unfold lvn; rw [if_neg h1, if_neg h2]; rfl
    rw [e]
    exact levels_count s hs sc _ _ hsc hp3 [] 0 (by simp) (by omega) rfl none ⟨fun _ => rfl, fun a e => by cases e⟩ w hS ht

theorem levels_open (s : ByteArray) (hs : s.size ≤ 20000) (sc p3 p4 kd a : Nat) (hsc : 6 < sc) (hp3 : p3 ≤ s.size) (ls : List LvB) (h : LvOpen s kd ls p3 p4) (hf : Fails s p4 a) (w : World) (hS : ScAt w sc s p3) (ht : Tabs w) :
    Calls Tryz.prog 36 #[.pointer (some ⟨sc, 0, none⟩), .int .i64 (lvn kd)] w fun e w' => Threw w sc 1 a e w' := by
  rcases h with ⟨rfl, rfl, rfl⟩ | ⟨rfl, hr, htk⟩
  · exact (levels_count s hs sc _ _ hsc hp3 [] 1 (by simp) (by omega) rfl (some a) ⟨fun e => (by cases e), fun a' e => (by cases e; exact ⟨by simp, hf⟩)⟩ w hS ht).mono fun e w' h => h.2 a rfl
  · exact (levels_free s hs sc p3 p4 hsc hp3 ls hr (some a) ⟨fun e => (by cases e), fun a' e => (by cases e; exact ⟨htk, hf⟩)⟩ w hS ht).mono fun e w' h => h.2 a rfl

set_option maxRecDepth 100000 in
set_option maxHeartbeats 16000000 in
theorem tbrack_walk (s : ByteArray) (hs : s.size ≤ 20000) (sc p1 p2 kd d : Nat) (hsc : 6 < sc) (hp1 : p1 ≤ s.size) (q : ByteArray) (hw : WordAt s q p1 p2) (hk : TKind q kd)
    (ihg : ∀ (t : Tm) (p p' : Nat) (W : World), RT s d t p p' → p ≤ s.size → ScAt W sc s p → Tabs2 W → Calls Tryz.prog 10 #[.pointer (some ⟨sc, 0, none⟩)] W fun e w' => TermOf W sc s d t p' e w')
    (ihb : ∀ (p a : Nat) (W : World), FT s d p a → p ≤ s.size → ScAt W sc s p → Tabs2 W → Calls Tryz.prog 10 #[.pointer (some ⟨sc, 0, none⟩)] W fun e w' => Threw W sc 1 a e w')
    (fin : Option Nat) (t : Tm) (p' : Nat)
    (hF : (kd = 2 ∧ isNameB (tok s p2).t = false ∧ fin = some (runTo blankB s p2)) ∨ ∃ nm p3, NamePart s kd nm p2 p3 ∧ ((∃ a ls p4, fin = some a ∧ LvOpen s kd ls p3 p4 ∧ Fails s p4 a) ∨ ∃ ls p4, LvPart s kd ls p3 p4 ∧ ∃ ts p5, Seq (RT s d) ts p4 p5 ∧ ((∃ a, fin = some a ∧ ts.length < tparts kd ∧ FT s d p5 a) ∨ (ts.length = tparts kd ∧ (tok s p5).t ≠ ⟨#[41]⟩ ∧ fin = some (runTo blankB s p5)) ∨ (ts.length = tparts kd ∧ SignAt s 41 p5 p' ∧ fin = none ∧ t = .node kd 0 nm ls ts))))
    (w : World) (h : ScAt w sc s p1) (ht : Tabs2 w) :
    Calls Tryz.prog 17 #[.pointer (some ⟨sc, 0, none⟩)] w fun e w' => BrkEnd w sc s (d + 1) t p' fin e w' := by
  have hlt := h.lt
  have ht0 := ht.below ((Below.refl _ _).alloc (Nat.le_refl _) ztm) ht.lt
  have K1 := hide (tword_calls sc s p1 _ p2 kd _ _ (hw.nexts hs hp1) (h.alloc ztm) ht0 hsc hk)
  have HTb := hide ht0
  have HF := hide hF
  have hp2 := hw.le
  have HG := hide ihg
  have HB := hide ihb
  have hpos := hk.pos
  obtain ⟨i5, hj, hy0, hy1, hy2⟩ := infoParts Tryz.info30'
  clear h ht ht0 hw hk hF ihg ihb
  generalize runTo blankB s p1 = kk at *
  go_enter Tryz.func17, Tryz.ntmps17
  go_wp2_with (go_at_call 33; refine K1.out.mono ?_)
  rintro e w1 ⟨rfl, hS1, hT1⟩
  have hz1 := hT1.size
  simp at hz1
  have hV : TVar 30 (w1.alloc (.cells #[.int .i64 (kd : Nat), .int .i64 0, .string ⟨#[]⟩, .slice none 0 0, .slice none 0 0] 30)) w1.heap.size kd 0 ⟨#[]⟩ (.slice none 0 0) (.slice none 0 0) := heap_alloc_new w1 _
  have hS2 := hS1.alloc (.cells #[.int .i64 (kd : Nat), .int .i64 0, .string ⟨#[]⟩, .slice none 0 0, .slice none 0 0] 30)
  have hT2 := hT1.trans (Touched.alloc w1 sc (.cells #[.int .i64 (kd : Nat), .int .i64 0, .string ⟨#[]⟩, .slice none 0 0, .slice none 0 0] 30))
  have HV := hide hV
  have HS2 := hide hS2
  have HT2 := hide hT2
  clear hV hS1 hT1 hS2 hT2
  go_upto_region 2 with fail
  generalize hW : w1.alloc (.cells #[.int .i64 (kd : Nat), .int .i64 0, .string ⟨#[]⟩, .slice none 0 0, .slice none 0 0] 30) = W at *
  have hzW : W.heap.size = w1.heap.size + 1 := by rw [← hW]; simp
  clear hW
  generalize hcc : w1.heap.size = c at *
  clear hcc
  go_cut [4] (fun v wx => v = .pointer (some ⟨c + 1, 0, none⟩) ∧ PShape w sc s c kd p2 wx)
  case first =>
    obtain ⟨q', r0, r1, r2, r3⟩ := (HTb.out.touched HT2.out hsc).b.rows kd hpos.1 hpos.2
    have x0 := HV.out.c0
    have hkk : kd = 1 ∨ kd = 2 ∨ kd = 3 ∨ kd = 4 ∨ kd = 5 ∨ kd = 6 := by omega
    clear HF HG HB hj hy0 hy1 hy2
    have HSh : Hid (∀ qq, PShape w sc s c kd p2 (W.alloc (.cells #[.string qq, .bool (decide (kd = 2)), .int .i64 (lvn kd), .int .i64 (tparts kd : Nat)] 80))) := fun qq =>
      ⟨HV.out.alloc _, by rw [← hzW]; simp [World.cell?_alloc_at], by rw [← hzW]; simp [World.cell?_alloc_at], by rw [← hzW]; simp [World.cell?_alloc_at], HS2.out.alloc _, HT2.out.trans (Touched.alloc _ _ _), by simp; omega⟩
    rcases hkk with rfl | rfl | rfl | rfl | rfl | rfl
    all_goals
      go_wp2_with fail
      go_meet
      case rel => exact ⟨rfl, HSh.out _⟩
  case rest =>
    obtain ⟨rfl, hV0, n1, n2, n3, hS0, hT0, hz0⟩ := hcut
    rcases HF.out with ⟨rfl, hnm, rfl⟩ | ⟨nm, p3, hN, hrest⟩
    · have K2 := hide (pname_none sc s p2 wc hs hp2 hnm hS0 (HTb.out.touched hT0 hsc).a hsc)
      have n1' : wc.cell? ⟨c + 1, 1, none⟩ = some (.bool true) := n1
      have HO := hide ((Touched.alloc w sc ztm).trans hT0)
      clear hV0 n1 n2 n3 hS0 hT0 HF HG HB hnm hj hy0 hy1 hy2 HV HS2 HT2
      go_wp2_with (go_at_call 35; refine K2.out.mono ?_)
      intro e w3 h3
      have H3 := hide (h3.from HO.out)
      obtain ⟨fb, rfl, -⟩ := h3
      go_wp2_with fail
      exact ⟨rfl, BrkEnd.bad H3.out⟩
    · have HRe := hide hrest
      have HNp := hide hN
      have hp23 := hN.le hp2
      have HV0 := hide hV0
      have HS0 := hide hS0
      have HT0 := hide hT0
      clear HF hrest hN hV0 hS0 hT0 HV HS2 HT2
      go_upto_if 13 with fail
      go_cut [] (fun wx => PNamed w sc s c kd p3 nm wx)
      case first =>
        clear HRe HG HB hj hy0 hy1 hy2
        by_cases h2 : kd = 2
        · subst h2
          have hwn : WordAt s nm p2 p3 := by
            rcases HNp.out with ⟨_, h⟩ | ⟨h, _⟩
            · exact h
            · exact absurd rfl h
          have K2 := hide (pname_calls sc s p2 p3 nm wc hs hp2 hwn HS0.out (HTb.out.touched HT0.out hsc).a hsc)
          clear hwn
          go_wp2_with (go_at_call 35; refine K2.out.mono ?_)
          first | (intro e w3 he hS3 hT3; subst he) | (rintro e w3 ⟨rfl, hS3, hT3⟩)
          have hz3 := hT3.size
          have hV3 := HV0.out.of_block (hT3.at HV0.out.lt (by omega))
          have x2 := hV3.c2
          have x2f := hV3.f 2
          have hblk : w3.heap[c + 1]? = wc.heap[c + 1]? := hT3.at (by omega) (by omega)
          have HPn : Hid (PNamed w sc s c 2 p3 nm (w3.setCell ⟨c, 2, none⟩ (.string nm))) := by
            have hblk' : (w3.setCell ⟨c, 2, none⟩ (.string nm)).heap[c + 1]? = wc.heap[c + 1]? := by rw [Below.heap_setCell _ _ _ _ (by show c + 1 ≠ c; omega)]; exact hblk
            refine ⟨hV3.setName nm, (World.cell?_of_block hblk').trans n2, (World.cell?_of_block hblk').trans n3, hS3.of_block (Below.heap_setCell _ _ _ _ (by show sc ≠ c; omega)), (HT0.out.trans hT3).setNew (a := ⟨c, 2, none⟩) (by simp; omega) _, by simp [World.setCell]; omega⟩
          have hlt3 : c < w3.heap.size := by omega
          clear hS3 hT3 hV3 hblk
          go_wp2_with fail
          go_meet
          case rel => exact HPn.out
        · have hnn : nm = ⟨#[]⟩ ∧ p3 = p2 := by
            rcases HNp.out with ⟨h, _⟩ | ⟨_, h⟩
            · exact absurd h h2
            · exact h
          obtain ⟨rfl, rfl⟩ := hnn
          have hd2 : decide (kd = 2) = false := by simp [h2]
          go_wp2_with fail
          go_meet
          case rel => exact ⟨HV0.out, n2, n3, HS0.out, HT0.out, by omega⟩
      case rest =>
        clear n1 n2 n3 HV0 HS0 HT0 hz0
        obtain ⟨hV0, n2, n3, hS0, hT0, hz0⟩ := hcut
        rcases HRe.out with ⟨a, ls, p4, rfl, hO, hFl⟩ | ⟨ls, p4, hL, ts, p5, hSq, hE⟩
        · have K3 := hide (levels_open s hs sc p3 p4 kd a hsc hp23.2 ls hO hFl _ hS0 (HTb.out.touched hT0 hsc).a)
          have HO := hide ((Touched.alloc w sc ztm).trans hT0)
          clear hV0 n3 hS0 hT0 HG HB hj hy0 hy1 hy2 hO hFl HRe
          go_wp2_with (go_at_call 36; refine K3.out.mono ?_)
          intro e w3 h3
          have H3 := hide (h3.from HO.out)
          obtain ⟨fb, rfl, -⟩ := h3
          go_wp2_with fail
          exact ⟨rfl, BrkEnd.bad H3.out⟩
        · rename_i wn
          have K3 := hide (levels_part s hs sc p3 p4 kd hsc hp23.2 ls hL _ hS0 (HTb.out.touched hT0 hsc).a)
          have hp4 := (hL.few hp23.2).2.2
          have HV0 := hide hV0
          have HT0 := hide hT0
          have HE := hide hE
          have HSq := hide hSq
          clear hV0 hS0 hT0 hL hE hSq HRe
          go_wp2_with (go_at_call 36; refine K3.out.mono ?_)
          intro e w3 h3
          obtain ⟨A, lc, rfl, hLv, hS3, hT3⟩ := h3.1 rfl
          have hz3 := hT3.size
          have hV3 := HV0.out.of_block (hT3.at HV0.out.lt (by omega))
          have x3 := hV3.c3
          have x3f := hV3.f 3
          have n3' : w3.cell? ⟨c + 1, 3, none⟩ = some (.int .i64 (tparts kd : Nat)) := (World.cell?_of_block (hT3.at (k := c + 1) (by omega) (by omega))).trans n3
          have hlt3 : c < w3.heap.size := by omega
          have HDn : Hid (PDone w sc s c kd p4 nm ls (w3.setCell ⟨c, 3, none⟩ (.slice A ls.length lc)) ∧ TVar 30 (w3.setCell ⟨c, 3, none⟩ (.slice A ls.length lc)) c kd 0 nm (.slice A ls.length lc) (.slice none 0 0) ∧ LvsIn (w3.setCell ⟨c, 3, none⟩ (.slice A ls.length lc)) (fun b => c + 2 ≤ b ∧ b < (w3.setCell ⟨c, 3, none⟩ (.slice A ls.length lc)).heap.size) A ls) := by
            have hl : LvsIn (w3.setCell ⟨c, 3, none⟩ (.slice A ls.length lc)) (fun b => c + 2 ≤ b ∧ b < (w3.setCell ⟨c, 3, none⟩ (.slice A ls.length lc)).heap.size) A ls := hLv.keep fun b hb h => ⟨⟨by omega, by simp [World.setCell]; exact hb⟩, Below.heap_setCell _ _ _ _ (by show b ≠ c; omega)⟩
            refine ⟨⟨A, lc, hV3.setL _, ?_, hS3.of_block (Below.heap_setCell _ _ _ _ (by show sc ≠ c; omega)), (HT0.out.trans hT3).setNew (a := ⟨c, 3, none⟩) (by simp; omega) _, hl, by simp [World.setCell]; omega⟩, hV3.setL _, hl⟩
            exact (World.cell?_of_block (Below.heap_setCell _ _ _ _ (by show c + 1 ≠ c; omega))).trans n3'
          have n3s : (w3.setCell ⟨c, 3, none⟩ (.slice A ls.length lc)).cell? ⟨c + 1, 3, none⟩ = some (.int .i64 (tparts kd : Nat)) := (World.cell?_of_block (Below.heap_setCell _ _ _ _ (by show c + 1 ≠ c; omega))).trans n3'
          clear hLv hS3 hT3 hV3 h3 K3
          go_wp2_with fail
          generalize hX : w3.setCell ⟨c, 3, none⟩ (.slice A ls.length lc) = W3 at *
          clear hX
          obtain ⟨⟨_, _, _, _, hS4, hT4, _, hz4⟩, hV4, hL4⟩ := HDn.out
          have HSt : Hid (TReading w W3 sc c s kd d nm (.slice A ls.length lc) ts 0 p5 (.slice none 0 0) [] W3) := ⟨hV4, by simpa using TRow.start _ _ _ _, ⟨p4, by simpa using HSq.out, hp4, hS4⟩, hT4, Nat.le_refl _, fun _ _ _ => rfl⟩
          have HL4 := hide hL4
          have hc1 : w.heap.size + 1 ≤ c := hz1
          have htp : ts.length ≤ tparts kd := by rcases HE.out with ⟨a, _, h, _⟩ | ⟨h, _⟩ | ⟨h, _⟩ <;> omega
          have hmx : tparts kd ≤ 3 := by unfold tparts; split <;> (try split) <;> omega
          clear hV4 hS4 hT4 hL4 HDn x3 x3f n3' n3s hlt3 hz3 HV0 HT0 n2 n3 hz0 K1 HNp
          go_loopg [24] (ts.length) (fun g i wr => ∃ (k : Nat) (rv : Value) (xs : List Value), k + g = ts.length ∧ i = .int .i64 k ∧ Hid (TReading w W3 sc c s kd d nm (.slice A ls.length lc) ts k p5 rv xs wr))
          case atStart => exact ⟨0, _, _, by omega, rfl, HSt.out⟩
          case round =>
            clear HSt
            obtain ⟨k, rv, xs, hkg, rfl, HM⟩ := hrel
            have hxk : xs.length = k := by rw [HM.out.row.len]; simp; omega
            have hvl := HM.out.var.lt
            have hsz := HM.out.size
            obtain ⟨ao, nn, cc, rfl⟩ : ∃ ao nn cc, rv = .slice ao nn cc := by
              rcases HM.out.row.own.2 with ⟨e, _⟩ | ⟨g, cap, cur, e, _⟩
              · exact ⟨_, _, _, e⟩
              · exact ⟨_, _, _, e⟩
            have q4 := HM.out.var.c4
            have q4f := HM.out.var.f 4
            by_cases hkl : k < ts.length
            · obtain ⟨pk, hra, hpk, hSk⟩ := HM.out.scan
              rw [List.drop_eq_getElem_cons hkl] at hra
              obtain ⟨pn, hr1, hr2⟩ := hra
              have hpn := hr1.le
              have hkn : k < tparts kd := by omega
              have HI : Hid (Calls Tryz.prog 10 #[.pointer (some ⟨sc, 0, none⟩)] wr.drew fun e w' => TermOf wr.drew sc s d ts[k] pn e w') := HG.out ts[k] pk pn wr.drew hr1 hpk hSk (HTb.out.touched HM.out.old.drew' hsc)
              have HR2 := hide hr2
              clear hr1 hr2 hSk HG HB
              go_wp2_with fail
              go_region_law (first
                | (refine step_sterm (f := 10) (sc := sc) (s := s) (d := d) (p' := pn) (t := ts[k]) (args := #[.pointer (some ⟨sc, 0, none⟩)]) rfl ?_ ?_ ?_
                   · simp [go_sem]
                   · exact HI.out
                   intro k1 m1 nm1 A1 n1 cap1 A2 n2 cap2 w5 hin5 hS5 hT5
                   have hT6 : Touched wr sc w5 := ⟨hT5.os, hT5.tape, hT5.output, hT5.size, hT5.block⟩
                   have hV5 := HM.out.var.of_block (hT6.at hvl (by omega))
                   have v4 := hV5.c4
                   have v4f := hV5.f 4
                   have hz5 := hT6.size
                   have hlt5 : c < w5.heap.size := by omega
                   have HV5 := hide hV5
                   have HO5 := hide (HM.out.row.own.kept (row := some sc) hT6 (.inr (fun e => by have := (HM.out.row.own.lt sc e).1; omega)))
                   have HT5 := hide hT6
                   have HS5 := hide hS5
                   have HI5 := hide hin5
                   clear hT5 hT6 hin5 hV5 hS5)
                | (refine step_append_own rfl (.tmp 27) (.tmp 30) 28 rfl W3.heap.size 30 i5 _ 5 80 Tryz.underlying28 hj hy0 hy1 hy2 rfl (by decide) (.slice ao nn cc) xs.length (flat xs) ?_ (HO5.out.alloc _) ⟨w5.heap.size, 0, none⟩ 1 1 [.int .i64 k1, .int .i64 m1, .string nm1, .slice A1 n1 cap1, .slice A2 n2 cap2] ?_ rfl ?_ ?_ (by decide) (by unfold maxLen; omega) (by omega) ?_ ?_
                   · rfl
                   · rfl
                   · exact five_new _ _ _ _ _ _ _
                   · intro u hu; simp at hu; rcases hu with rfl | rfl | rfl | rfl | rfl <;> rfl
                   · show W3.heap.size ≤ (w5.alloc _).heap.size; simp; omega
                   intro v' w6 hown6 hgr6 hpl6
                   obtain ⟨g, cap', rfl, hgb⟩ := shape5 hown6 (by omega)
                   have hV6 := (HV5.out.alloc (.cells #[.int .i64 k1, .int .i64 m1, .string nm1, .slice A1 n1 cap1, .slice A2 n2 cap2] 30)).of_block (hgr6.block c (by simp; omega) (fun e => by have := (HM.out.row.own.lt _ e.symm).1; omega))
                   have u4 := hV6.c4
                   have u4f := hV6.f 4
                   have HV6 := hide hV6
                   have HO6 := hide hown6
                   have HG6 := hide hgr6
                   have HP6 := hide hpl6
                   clear hown6 hgr6 hpl6 hV6))
              all_goals
                have HNx := hide (HM.out.next hkl hlt hc1 hz4 HR2.out hpn HT5.out HS5.out HI5.out HO6.out HG6.out HP6.out)
                go_wp2_with fail
                go_roundg (ts.length - (k + 1))
                case measure => omega
                case rel => exact ⟨k + 1, _, _, by omega, by go_num, by have h' := HNx.out; rw [hxk] at h'; exact h'⟩
            · have hke : k = ts.length := by omega
              subst hke
              obtain ⟨pk, hra, hpk, hSk⟩ := HM.out.scan
              rw [List.drop_length] at hra
              have hra' : p5 = pk := hra
              subst hra'
              have htw := HTb.out.touched HM.out.old hsc
              have HOld := hide ((Touched.alloc w sc ztm).trans HM.out.old)
              rcases HE.out with ⟨a, rfl, hm, hft⟩ | ⟨hm, hcl, rfl⟩ | ⟨hm, hcl, rfl, rfl⟩
              · have HI : Hid (Calls Tryz.prog 10 #[.pointer (some ⟨sc, 0, none⟩)] wr.drew fun e w' => Threw wr.drew sc 1 a e w') := HB.out p5 a wr.drew hft hpk hSk (HTb.out.touched HM.out.old.drew' hsc)
                clear hSk htw hft HG HB
                go_wp2_with fail
                go_region_law (first
                  | (refine step_throwT (f := 10) (sc := sc) (a0 := a) (args := #[.pointer (some ⟨sc, 0, none⟩)]) rfl ?_ ?_ ?_ ?_
                     · simp [go_sem]
                     · exact HI.out
                     · intro fb w5 h5
                       exact ⟨rfl, BrkEnd.bad (h5.from HOld.out.drew')⟩
                     intro k1 m1 nm1 A1 n1 cap1 A2 n2 cap2 w5 HF
                     have v2 : w5.cell? ⟨c, 4, none⟩ = some (.slice ao nn cc) := HF.out.elim
                     have v3 : w5.frozen? ⟨c, 4, none⟩ = false := HF.out.elim
                     have hlt5 : c < w5.heap.size := HF.out.elim)
                  | (refine step_append_own rfl (.tmp 27) (.tmp 30) 28 rfl W3.heap.size 30 i5 _ 5 80 Tryz.underlying28 hj hy0 hy1 hy2 rfl (by decide) (.slice ao nn cc) xs.length (flat xs) ?_ HF.out.elim ⟨w5.heap.size, 0, none⟩ 1 1 [.int .i64 k1, .int .i64 m1, .string nm1, .slice A1 n1 cap1, .slice A2 n2 cap2] ?_ rfl HF.out.elim HF.out.elim (by decide) HF.out.elim HF.out.elim HF.out.elim ?_
                     · rfl
                     · rfl
                     intro v' w6 _ _ _
                     obtain ⟨g, cap', rfl⟩ : ∃ (g cap' : Nat), v' = .slice (some ⟨g, 0, none⟩) (xs.length + 1) cap' := HF.out.elim
                     have u2 : w6.cell? ⟨c, 4, none⟩ = some (.slice ao nn cc) := HF.out.elim
                     have u3 : w6.frozen? ⟨c, 4, none⟩ = false := HF.out.elim))
                all_goals exact HF.out.elim
              · have hkn : ¬ ts.length < tparts kd := by omega
                have K9 := hide (expect_bad sc s p5 _ _ _ _ [2] (.slice (some ⟨wr.heap.size, 0, none⟩) 1 1) _ (next_all hs hpk) (hSk.alloc (.cells #[.int .i64 2] 56)) (htw.a.below ((Below.refl _ _).alloc (Nat.le_refl _) _) htw.lt) hsc (kinds1 2) (fun b n cap e => by injection e with e; injection e with e; injection e with e; have := hSk.lt; omega) (by simp) (by simpa using noshut_kind hpk hcl))
                clear hcl htw hSk HG HB
                go_wp2_with (go_at_call 16; refine K9.out.mono ?_)
                intro e w7 h7
                have H7 := hide (h7.from (HOld.out.trans (Touched.alloc wr sc (.cells #[.int .i64 2] 56))))
                obtain ⟨fb, rfl, -⟩ := h7
                go_wp2_with fail
                exact ⟨rfl, BrkEnd.bad H7.out⟩
              · have hkn : ¬ ts.length < tparts kd := by omega
                have K9 := hide (expect_calls sc s p5 2 _ p' _ [2] (.slice (some ⟨wr.heap.size, 0, none⟩) 1 1) _ (hcl.nexts hs hpk 2 (.inr ⟨rfl, rfl⟩)) (hSk.alloc (.cells #[.int .i64 2] 56)) (htw.a.below ((Below.refl _ _).alloc (Nat.le_refl _) _) htw.lt) hsc (kinds1 2) (fun b n cap e => by injection e with e; injection e with e; injection e with e; have := hSk.lt; omega) (by simp))
                clear hcl htw hSk HG HB
                go_wp2_with (go_at_call 16; refine K9.out.mono ?_)
                first | (intro e w7 he hS7 hT7; subst he) | (rintro e w7 ⟨rfl, hS7, hT7⟩)
                have hT8 : Touched wr sc w7 := (Touched.alloc wr sc (.cells #[.int .i64 2] 56)).trans hT7
                have hV7 := HM.out.var.of_block (hT8.at hvl (by omega))
                have v0 := hV7.c0
                have v1 := hV7.c1
                have v2 := hV7.c2
                have v3 := hV7.c3
                have v4 := hV7.c4
                obtain ⟨d0, d1, d2, d3, d4, d5, d6⟩ := tzcells hlt (HM.out.old.trans hT8)
                have HFi := hide (sterm_stored hlt hS7 (HOld.out.trans hT8) (HM.out.made hlt hc1 hz4 HL4.out hT8))
                clear hS7 hT7 hT8 hV7
                go_wp2_with fail
                refine bodyPost_ret (v := .agg #[.int .i64 kd, .int .i64 0, .string nm, .slice A ls.length lc, .slice ao nn cc]) (by simp [results, Tryz.results17, go_sem, d0, d1, d2, d3, d4]) rfl ?_
                exact BrkEnd.good HFi.out

end Go.Proofs.YtnbpmmgekoclpaaGreatDoor
