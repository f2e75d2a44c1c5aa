/- The contract of the document's decl: its walk. -/
import Derived.Test.YtjlibnijecdgcaaGreatDoorDDecl1

namespace Go.Proofs.YtjlibnijecdgcaaGreatDoor
open Go.RowKit

theorem zdc_all : (#[.int .i64 0, .string ⟨#[]⟩, .slice none 0 0, .int .i64 0, .int .i64 0, .string ⟨#[]⟩, .slice none 0 0, .slice none 0 0, .int .i64 0, .int .i64 0, .string ⟨#[]⟩, .slice none 0 0, .slice none 0 0, .int .i64 0, .slice none 0 0] : Array Value).all (·.oneCell') = true :=
  all_oneCell_toArray (by simp only [List.mem_cons, List.not_mem_nil, or_false]; rintro u (rfl | rfl | rfl | rfl | rfl | rfl | rfl | rfl | rfl | rfl | rfl | rfl | rfl | rfl | rfl) <;> rfl)

set_option maxRecDepth 100000 in
set_option maxHeartbeats 16000000 in
theorem ddecl_calls (rb : Nat) (s : ByteArray) (p a D wb wo wc : Nat) (w : World) (hs : s.size ≤ 200000) (hp : p ≤ s.size) (h : RdAt w rb s p 0 a) (hw : WordsAt w wb wo wc) (hr0 : rb ≠ 1) (hr1 : rb ≠ wb) (hD : 200000 < D) :
    Calls Tryz.prog 34 #[.pointer (some ⟨rb, 0, none⟩)] w fun e w' => DDeclEnd w rb s D p e w' := by
  have hrb := h.lt
  have HW := hide hw
  have K1 := hide (takes_calls rb s p 0 a (w.alloc zdc) hs hp (h.alloc zdc) ⟨#[40]⟩ (by decide))
  have HZ0 : Hid ((w.alloc zdc).heap[w.heap.size]? = some zdc) := heap_alloc_new w zdc
  clear h hw
  go_enter Tryz.func34, Tryz.ntmps34
  go_wp2_with (go_at_call 55; refine K1.out.mono ?_)
  intro e w1 h9
  obtain ⟨p1, c1, a1, rfl, hR1, hT1, hl1, -, hG1⟩ := h9
  have HI1 : Hid ((c1 = 0 ∧ SignAt s 40 p p1) ∨ (c1 = 1 ∧ bDecl s D p a1)) := by
    have := step_inv (F := True) (B := bDecl s D p) (.inl ⟨rfl, trivial⟩) (goes_open hp hG1) (fun _ h => .inl h)
    exact this.imp (fun h => ⟨h.1, h.2.2⟩) id
  have HT1 := hide ((Touched.alloc w rb zdc).trans hT1)
  have hz1 := hT1.size
  simp at hz1
  have HZ1 : Hid (w1.heap[w.heap.size]? = some zdc) := (hT1.at (by simp) (by omega)).trans HZ0.out
  have KT := hide (token_calls s p1 rb w1 hs hl1 hR1.c0 hR1.c1)
  have HSt : Hid (RSt w rb s w1.heap.size #[.int .i64 0, .string ⟨#[]⟩, .slice none 0 0, .int .i64 0, .int .i64 0, .string ⟨#[]⟩, .slice none 0 0, .slice none 0 0, .int .i64 0, .int .i64 0, .string ⟨#[]⟩, .slice none 0 0, .slice none 0 0, .int .i64 0, .slice none 0 0] p1 c1 a1 (w1.alloc zdc)) :=
    ⟨heap_alloc_new w1 zdc, (Below.heap_alloc _ _ _ (by omega)).trans HZ1.out, hR1.alloc zdc, HT1.out.trans (Touched.alloc _ _ _), hl1, by omega, hrb⟩
  obtain ⟨k1, k2, k3, k4⟩ := tok_facts hl1
  have HK2 := hide k2
  have HWk := hide (word_kind hl1)
  have HP1 := hide hl1
  clear K1 hT1 HZ0 hG1 k1 k2 k3 k4 hl1
  obtain ⟨t, ht⟩ : ∃ t, t = (tok s p1).t := ⟨_, rfl⟩
  obtain ⟨k, hk⟩ : ∃ k, k = (tok s p1).at_ := ⟨_, rfl⟩
  obtain ⟨ok, hok⟩ : ∃ ok, ok = (tok s p1).ok := ⟨_, rfl⟩
  rw [← ht, ← hk] at HWk HK2
  rw [← ht, ← hk, ← hok] at KT
  have HTk := hide ht
  have HKk := hide hk
  clear ht hk hok
  go_upto_block 0 with (go_at_call 33; refine KT.out.mono ?_; rintro e w' ⟨rfl, rfl⟩)
  obtain ⟨w1, hw1⟩ : ∃ x, x = w' := ⟨_, rfl⟩
  subst hw1
  generalize hW2 : w1.alloc zdc = W2 at *
  clear hW2 KT
  go_cut [6] (fun v wx => ∃ kd : Nat, v = .pointer (some ⟨w1.heap.size, 0, none⟩) ∧ Hid ((1 ≤ kd ∧ kd ≤ 3) ∧ t = dword kd ∧ DwAt s kd p1 (k + t.size)) ∧ Hid (RSt w rb s w1.heap.size #[.int .i64 (kd : Nat), .string ⟨#[]⟩, .slice none 0 0, .int .i64 0, .int .i64 0, .string ⟨#[]⟩, .slice none 0 0, .slice none 0 0, .int .i64 0, .int .i64 0, .string ⟨#[]⟩, .slice none 0 0, .slice none 0 0, .int .i64 0, .slice none 0 0] p1 c1 a1 wx))
  case first =>
    as_aux_lemma =>
    have hv := HSt.out.var
    have e0 : W2.cell? ⟨w1.heap.size, 0, none⟩ = some (.int .i64 0) := cell_of hv 0 rfl
    have ef : ∀ i, W2.frozen? ⟨w1.heap.size, i, none⟩ = false := fun i => frozen_of hv i
    have el : w1.heap.size < W2.heap.size := HSt.out.lt
    clear hv
    rcases HWk.out with ⟨kd, hkd, hkt, hdw⟩ | ⟨hno, hbad⟩
    · have HDw := hide (And.intro hkd (And.intro hkt hdw))
      have h123 : kd = 1 ∨ kd = 2 ∨ kd = 3 := by omega
      clear hkd hdw HWk
      rcases h123 with rfl | rfl | rfl
      · have q1 := sameLit_pos (l := [97, 120, 105, 111, 109]) hkt
        clear hkt
        go_wp2_with fail
        go_meet
        case rel => exact ⟨1, rfl, HDw.out, HSt.out.set 0 _ _ rfl⟩
      · have q1 := sameLit_neg (t := t) (l := [97, 120, 105, 111, 109]) (by rw [hkt]; decide)
        have q2 := sameLit_pos (l := [100, 101, 102]) hkt
        clear hkt
        go_wp2_with fail
        go_meet
        case rel => exact ⟨2, rfl, HDw.out, HSt.out.set 0 _ _ rfl⟩
      · have q1 := sameLit_neg (t := t) (l := [97, 120, 105, 111, 109]) (by rw [hkt]; decide)
        have q2 := sameLit_neg (t := t) (l := [100, 101, 102]) (by rw [hkt]; decide)
        have q3 := sameLit_pos (l := [105, 110, 100, 117, 99, 116, 105, 118, 101]) hkt
        clear hkt
        go_wp2_with fail
        go_meet
        case rel => exact ⟨3, rfl, HDw.out, HSt.out.set 0 _ _ rfl⟩
    · have q1 := sameLit_neg (t := t) (l := [97, 120, 105, 111, 109]) (hno 1 (by omega))
      have q2 := sameLit_neg (t := t) (l := [100, 101, 102]) (hno 2 (by omega))
      have q3 := sameLit_neg (t := t) (l := [105, 110, 100, 117, 99, 116, 105, 118, 101]) (hno 3 (by omega))
      have KF := hide (fail_any rb s p1 c1 a1 k W2 HSt.out.rd)
      have HBd := hide hbad
      clear hno hbad HWk e0 ef el
      go_wp2_with (go_at_call 56; refine KF.out.mono ?_)
      intro e w3 h9
      obtain ⟨c3, a3, rfl, hR3, hc3, hT3⟩ := h9
      have HI3 : Hid ((c3 = 0 ∧ ∃ d, DeclAt s D d p p1 ∧ DeclV w3 (fun b => w.heap.size < b ∧ b ≠ w1.heap.size) D d (.agg #[.int .i64 0, .string ⟨#[]⟩, .slice none 0 0, .int .i64 0, .int .i64 0, .string ⟨#[]⟩, .slice none 0 0, .slice none 0 0, .int .i64 0, .int .i64 0, .string ⟨#[]⟩, .slice none 0 0, .slice none 0 0, .int .i64 0, .slice none 0 0])) ∨ (c3 = 1 ∧ bDecl s D p a3)) := by
        rcases hc3 with ⟨_, ⟨g1, g2, g3⟩ | ⟨g1, g2, g3⟩⟩
        · rcases HI1.out with ⟨h, _⟩ | ⟨h, hb⟩
          · exact absurd h g1
          · exact .inr ⟨by omega, by rw [g3]; exact hb⟩
        · rcases HI1.out with ⟨h, hs1⟩ | ⟨h, _⟩
          · exact .inr ⟨g2, .inr ⟨(), p1, hs1, .inl (by rw [g3]; exact HBd.out)⟩⟩
          · omega
      obtain ⟨l, hl, hRg, hTh, hSz, hOne, hRs, hE⟩ := decl_ret (D := D) (p := p) (vs := #[.int .i64 0, .string ⟨#[]⟩, .slice none 0 0, .int .i64 0, .int .i64 0, .string ⟨#[]⟩, .slice none 0 0, .slice none 0 0, .int .i64 0, .int .i64 0, .string ⟨#[]⟩, .slice none 0 0, .slice none 0 0, .int .i64 0, .slice none 0 0]) rfl zdc_all (HSt.out.touched hT3 hR3 HP1.out) HI3.out
      have HRg := hide hRg
      have HTh := hide hTh
      have HSz := hide hSz
      have HOne := hide hOne
      have HRs := hide hRs
      have HE := hide hE
      clear hl hRg hTh hSz hOne hRs hE hT3 hR3 hc3 KF
      go_wp2_with (first | (refine wpList_load_mid rfl 46 _ rfl w1.heap.size 0 rfl l _ HRg.out Tryz.underlying46 rfl HSz.out ?_) | (refine wpList_store_mid rfl 46 _ _ rfl w.heap.size 0 l.toArray rfl rfl HTh.out HSz.out HOne.out ?_))
      refine bodyPost_ret (v := .agg l.toArray) (by simp [results, Tryz.results34, asAddr, Act.put, HRs.out]) rfl ?_
      exact HE.out
  case rest =>
  obtain ⟨kd, rfl, HDw, HS3⟩ := hcut
  rename World => W3
  clear HSt HWk
  have hne : t ≠ ⟨#[]⟩ := by
    obtain ⟨h1, h2, _⟩ := HDw.out
    rw [h2]
    have : kd = 1 ∨ kd = 2 ∨ kd = 3 := by omega
    rcases this with rfl | rfl | rfl <;> decide
  have KN := hide (nexts_calls rb s p1 c1 a1 W3 hs HP1.out HS3.out.rd (by rw [← HTk.out]; exact hne))
  clear hne
  go_wp2_with (go_at_call 57; refine KN.out.mono ?_)
  intro e w4 h9
  obtain ⟨q4, p2, c2, a2, rfl, hR4, hT4, hl4, -, hG4⟩ := h9
  have HI2 : Hid ((c2 = 0 ∧ SignAt s 40 p p1 ∧ DwAt s kd p1 p2) ∨ (c2 = 1 ∧ bDecl s D p a2)) := by
    have := step_inv HI1.out hG4 (fun _ h => h.elim)
    refine this.imp (fun h => ⟨h.1, h.2.1, ?_⟩) id
    have e := h.2.2
    rw [← HTk.out, ← HKk.out] at e
    rw [e]
    exact HDw.out.2.2
  have HS4 := hide (HS3.out.touched hT4 hR4 hl4)
  have hkd := HDw.out.1
  clear hR4 hT4 hl4 hG4 KN HS3 HI1 HDw HTk HKk HK2
  have KM := hide (names_calls rb s p2 c2 a2 w4 hs HS4.out.le HS4.out.rd)
  go_wp2_with (go_at_call 58; refine KM.out.mono ?_)
  intro e w5 h9
  obtain ⟨nm, p3, c3, a3, rfl, hR5, hT5, hl5, -, hG5⟩ := h9
  have HI3 : Hid ((c3 = 0 ∧ (SignAt s 40 p p1 ∧ DwAt s kd p1 p2) ∧ WordAt s nm p2 p3) ∨ (c3 = 1 ∧ bDecl s D p a3)) := step_inv HI2.out hG5 (fun F h => .inr ⟨(), p1, F.1, .inr ⟨kd, p2, F.2, .inl h⟩⟩)
  have HS5 := hide (HS4.out.touched hT5 hR5 hl5)
  clear hR5 hT5 hl5 hG5 KM HS4 HI2
  have hv := HS5.out.var
  have e1 : w5.cell? ⟨w1.heap.size, 1, none⟩ = some (.string ⟨#[]⟩) := cell_of hv 1 rfl
  have ef : ∀ i, w5.frozen? ⟨w1.heap.size, i, none⟩ = false := fun i => frozen_of hv i
  have el : w1.heap.size < w5.heap.size := HS5.out.lt
  clear hv
  have HS6 : Hid (RSt w rb s w1.heap.size #[.int .i64 (kd : Nat), .string nm, .slice none 0 0, .int .i64 0, .int .i64 0, .string ⟨#[]⟩, .slice none 0 0, .slice none 0 0, .int .i64 0, .int .i64 0, .string ⟨#[]⟩, .slice none 0 0, .slice none 0 0, .int .i64 0, .slice none 0 0] p3 c3 a3 (w5.setCell ⟨w1.heap.size, 1, none⟩ (.string nm))) := HS5.out.set 1 _ _ rfl
  have KO := hide (takes_calls rb s p3 c3 a3 _ hs HS6.out.le HS6.out.rd ⟨#[40]⟩ (by decide))
  clear HS5
  go_wp2_with (go_at_call 55; refine KO.out.mono ?_)
  intro e w6 h9
  obtain ⟨p4, c4, a4, rfl, hR6, hT6, hl6, -, hG6⟩ := h9
  have HI4 : Hid ((c4 = 0 ∧ ((SignAt s 40 p p1 ∧ DwAt s kd p1 p2) ∧ WordAt s nm p2 p3) ∧ SignAt s 40 p3 p4) ∨ (c4 = 1 ∧ bDecl s D p a4)) := step_inv HI3.out (goes_open HS6.out.le hG6) (fun F h => .inr ⟨(), p1, F.1.1, .inr ⟨kd, p2, F.1.2, .inr ⟨nm, p3, F.2, .inl (.inl h)⟩⟩⟩)
  have HS7 := hide (HS6.out.touched hT6 hR6 hl6)
  clear hR6 hT6 hl6 hG6 KO HS6 HI3 e1 ef el
  obtain ⟨i0, hi, hz0, hz1', hz2⟩ := infoParts Tryz.info9'
  go_upto_block 1 with fail
  go_cut [6] (fun v wx => ∃ (pk code ak : Nat) (ns : List ByteArray) (Ap : Option Addr) (np cp : Nat), v = .pointer (some ⟨w1.heap.size, 0, none⟩) ∧ Hid (RSt w rb s w1.heap.size #[.int .i64 (kd : Nat), .string nm, .slice Ap np cp, .int .i64 0, .int .i64 0, .string ⟨#[]⟩, .slice none 0 0, .slice none 0 0, .int .i64 0, .int .i64 0, .string ⟨#[]⟩, .slice none 0 0, .slice none 0 0, .int .i64 0, .slice none 0 0] pk code ak wx) ∧ Hid ((code = 0 ∧ (((SignAt s 40 p p1 ∧ DwAt s kd p1 p2) ∧ WordAt s nm p2 p3) ∧ SignAt s 40 p3 p4) ∧ SeqG (WordAt s) ns p4 pk ∧ np = ns.length ∧ np ≤ cp ∧ (tok s pk).t = ⟨#[41]⟩ ∧ NmsIn wx (fun b => w1.heap.size < b) Ap ns) ∨ (code = 1 ∧ bDecl s D p ak)))
  case first =>
    as_aux_lemma =>
    have HSt0 : Hid (∃ (pk code ak : Nat) (ns : List ByteArray) (Ap : Option Addr) (np cp : Nat), (2 * s.size + 1 - (2 * p4 + (if c4 = 0 then 0 else 1))) + 2 * pk + (if code = 0 then 0 else 1) = 2 * s.size + 1 ∧ Hid (RSt w rb s w1.heap.size #[.int .i64 (kd : Nat), .string nm, .slice Ap np cp, .int .i64 0, .int .i64 0, .string ⟨#[]⟩, .slice none 0 0, .slice none 0 0, .int .i64 0, .int .i64 0, .string ⟨#[]⟩, .slice none 0 0, .slice none 0 0, .int .i64 0, .slice none 0 0] pk code ak w6) ∧ Hid ((code = 0 ∧ (((SignAt s 40 p p1 ∧ DwAt s kd p1 p2) ∧ WordAt s nm p2 p3) ∧ SignAt s 40 p3 p4) ∧ SeqG (WordAt s) ns p4 pk ∧ ns.length ≤ pk ∧ np = ns.length ∧ w6.ownsRow (w1.heap.size + 1) 9 1 (.slice Ap np cp) ns.length (ns.map .string)) ∨ (code = 1 ∧ bDecl s D p ak))) := by
      refine ⟨p4, c4, a4, [], none, 0, 0, ?_, HS7.out, ?_⟩
      · have := HS7.out.le
        split <;> omega
      · exact HI4.out.imp (fun h => ⟨h.1, h.2, rfl, Nat.zero_le _, rfl, World.ownsRow_nil _ _ _ _⟩) id
    go_wp2_with fail
    go_loopg [] (2 * s.size + 1 - (2 * p4 + (if c4 = 0 then 0 else 1))) (fun g wr => ∃ (pk code ak : Nat) (ns : List ByteArray) (Ap : Option Addr) (np cp : Nat), g + 2 * pk + (if code = 0 then 0 else 1) = 2 * s.size + 1 ∧ Hid (RSt w rb s w1.heap.size #[.int .i64 (kd : Nat), .string nm, .slice Ap np cp, .int .i64 0, .int .i64 0, .string ⟨#[]⟩, .slice none 0 0, .slice none 0 0, .int .i64 0, .int .i64 0, .string ⟨#[]⟩, .slice none 0 0, .slice none 0 0, .int .i64 0, .slice none 0 0] pk code ak wr) ∧ Hid ((code = 0 ∧ (((SignAt s 40 p p1 ∧ DwAt s kd p1 p2) ∧ WordAt s nm p2 p3) ∧ SignAt s 40 p3 p4) ∧ SeqG (WordAt s) ns p4 pk ∧ ns.length ≤ pk ∧ np = ns.length ∧ wr.ownsRow (w1.heap.size + 1) 9 1 (.slice Ap np cp) ns.length (ns.map .string)) ∨ (code = 1 ∧ bDecl s D p ak)))
    case atStart => exact HSt0.out
    case round =>
      clear HSt0 HS7 HI4
      obtain ⟨pk, code, ak, ns, Ap, np, cp, hg, HR, HJ⟩ := hrel
      have r2 := HR.out.rd.c2
      have rl := HR.out.rd.lt
      by_cases hc : code = 0
      rotate_left
      · have q : ((code : Int) == 0) = false := by simp; omega
        have HX : Hid (code = 1 ∧ bDecl s D p ak) := by
          rcases HJ.out with h | h
          · exact absurd h.1 hc
          · exact h
        clear hc hg
        go_wp2_with fail
        go_meet
        case rel => exact ⟨pk, code, ak, ns, Ap, np, cp, rfl, HR.out, .inr HX.out⟩
      subst hc
      obtain ⟨hF, hsq, hfew, hnp, hrow⟩ : (((SignAt s 40 p p1 ∧ DwAt s kd p1 p2) ∧ WordAt s nm p2 p3) ∧ SignAt s 40 p3 p4) ∧ SeqG (WordAt s) ns p4 pk ∧ ns.length ≤ pk ∧ np = ns.length ∧ wr.ownsRow (w1.heap.size + 1) 9 1 (.slice Ap np cp) ns.length (ns.map .string) := by
        rcases HJ.out with h | h
        · exact h.2
        · exact absurd h.1 (by decide)
      have HFa := hide hF
      have HSq := hide hsq
      have HRow := hide hrow
      have HNp := hide hnp
      rw [if_pos rfl] at hg
      have hple := HR.out.le
      clear HJ hF hsq hrow hnp
      obtain ⟨t9, ht9⟩ : ∃ t9, t9 = (tok s pk).t := ⟨_, rfl⟩
      have KP := hide (peek_calls rb s pk ak wr hs HR.out.le HR.out.rd)
      rw [← ht9] at KP
      have HT9 := hide ht9
      clear ht9
      by_cases hsh : t9 = ⟨#[41]⟩
      · have q := sameLit_pos (l := [41]) hsh
        have HSh : Hid ((tok s pk).t = ⟨#[41]⟩) := HT9.out.symm.trans hsh
        have HNm : Hid (np ≤ cp ∧ NmsIn wr (fun b => w1.heap.size < b) Ap ns) := by
          refine ⟨?_, (NmsIn.of_own HRow.out).keep fun b _ hb => ⟨by omega, rfl⟩⟩
          have := own_cap HRow.out
          have := HNp.out
          omega
        clear hsh HT9
        go_wp2_with (go_at_call 59; refine KP.out.mono ?_; rintro e w9 ⟨rfl, rfl⟩)
        go_meet
        case rel => exact ⟨pk, 0, ak, ns, Ap, np, cp, rfl, HR.out, .inl ⟨rfl, HFa.out, HSq.out, HNp.out, HNm.out.1, HSh.out, HNm.out.2⟩⟩
      · have q := sameLit_neg (l := [41]) hsh
        have HSh : Hid ((tok s pk).t ≠ ⟨#[41]⟩) := fun e => hsh (HT9.out.trans e)
        clear hsh HT9
        have KN : Hid (Calls Tryz.prog 58 #[.pointer (some ⟨rb, 0, none⟩)] wr.drew fun e w' => ∃ v, e = .returned v ∧ NameR rb s pk ak wr.drew v w') := (names_calls rb s pk 0 ak wr.drew hs HR.out.le HR.out.drew.rd).mono fun e w' ⟨qn, p', c', a', he, h⟩ => ⟨_, he, qn, p', c', a', rfl, h⟩
        have hv := HR.out.var
        have e2 : wr.cell? ⟨w1.heap.size, 2, none⟩ = some (.slice Ap np cp) := cell_of hv 2 rfl
        have ef : ∀ i, wr.frozen? ⟨w1.heap.size, i, none⟩ = false := fun i => frozen_of hv i
        have el : w1.heap.size < wr.heap.size := HR.out.lt
        clear hv
        go_upto_region 17 with (go_at_call 59; refine KP.out.mono ?_; rintro e w9 ⟨rfl, rfl⟩)
        obtain ⟨wr, hwr⟩ : ∃ x, x = w9 := ⟨_, rfl⟩
        subst hwr
        go_region_law (first
          | (refine step_list (f := 58) (R := NameR rb s pk ak wr.drew) rfl ?_ KN.out ?_
             · simp [go_sem]
             rintro v w5 ⟨qn, pn, cn, an, rfl, hR5, hT5, hl5, hm5, hG5⟩
             have HS5 := hide (HR.out.drew.touched hT5 hR5 hl5)
             have hv := HS5.out.var
             have z2 : w5.cell? ⟨w1.heap.size, 2, none⟩ = some (.slice Ap np cp) := cell_of hv 2 rfl
             have zf : ∀ i, w5.frozen? ⟨w1.heap.size, i, none⟩ = false := fun i => frozen_of hv i
             have zl : w1.heap.size < w5.heap.size := HS5.out.lt
             have HO5 := hide ((HRow.out.drew.kept (row := some rb) hT5 (.inr (fun e => by have := (HRow.out.lt rb e).1; have := HR.out.hc; have := HR.out.hs; omega))).alloc (.cells #[.string qn] 9))
             have HG5 := hide hG5
             clear hv hT5 hR5 hl5 hG5 KN)
          | (refine step_append_own rfl (.tmp 53) (.tmp 56) 39 rfl (w1.heap.size + 1) 9 i0 _ 1 16 Tryz.underlying39 hi hz0 hz1' hz2 rfl (by decide) (.slice Ap np cp) ns.length (ns.map .string) ?_ HO5.out ⟨w5.heap.size, 0, none⟩ 1 1 [.string qn] ?_ rfl ?_ ?_ (by decide) (by unfold maxLen; omega) (by omega) ?_ ?_
             · rfl
             · rfl
             · exact cell_one_new w5 _ 9
             · intro u hu; simp at hu; subst hu; rfl
             · show w1.heap.size + 1 ≤ (w5.alloc _).heap.size; simp; omega
             intro v' w6 hown6 hgr6 _
             obtain ⟨ao6, cA6, hu⟩ := own_row_slice hown6
             subst hu
             have HS6 := hide ((HS5.out.alloc (.cells #[.string qn] 9)).grown hgr6 (fun b e => by have := (HO5.out.lt b e).1; omega))
             have hv := HS6.out.var
             have y2 : w6.cell? ⟨w1.heap.size, 2, none⟩ = some (.slice Ap np cp) := cell_of hv 2 rfl
             have yf : ∀ i, w6.frozen? ⟨w1.heap.size, i, none⟩ = false := fun i => frozen_of hv i
             have yl : w1.heap.size < w6.heap.size := HS6.out.lt
             have HO6 := hide hown6
             clear hv hown6 hgr6))
        all_goals
          go_wp2_with fail
          go_roundg (2 * s.size + 1 - (2 * pn + (if cn = 0 then 0 else 1)))
          case measure =>
            have h5 := HG5.out
            rcases h5 with ⟨h, _⟩ | ⟨_, h, hw⟩ | ⟨_, h, _⟩
            · exact absurd rfl h
            · have := hw.lt.1
              rw [if_pos h]
              omega
            · rw [if_neg (by omega)]
              omega
          case rel =>
            have hle6 := HS6.out.le
            refine ⟨pn, cn, an, ns ++ [qn], ao6, ns.length + 1, cA6, by split <;> omega, HS6.out.set 2 _ _ rfl, ?_⟩
            rcases HG5.out with ⟨h, _⟩ | ⟨_, h, hw⟩ | ⟨_, h, hb⟩
            · exact absurd rfl h
            · have := hw.lt.1
              exact .inl ⟨h, HFa.out, HSq.out.snoc hw, by simp; omega, by simp, by simpa using ownsRow_setCell_below HO6.out (by show w1.heap.size < w1.heap.size + 1; omega) _⟩
            · exact .inr ⟨h, .inr ⟨(), p1, HFa.out.1.1.1, .inr ⟨kd, p2, HFa.out.1.1.2, .inr ⟨nm, p3, HFa.out.1.2, .inl (.inr ⟨(), p4, HFa.out.2, ns, pk, HSq.out, fun q h => HSh.out (shut_tok h), hb⟩)⟩⟩⟩⟩
  case rest =>
  obtain ⟨pk, code, ak, ns, Ap, np, cp, rfl, HS8, HI5⟩ := hcut
  rename World => w8
  clear HS7 HI4
  have K8 := hide (takes_calls rb s pk code ak w8 hs HS8.out.le HS8.out.rd ⟨#[41]⟩ (by decide))
  go_wp2_with (go_at_call 55; refine K8.out.mono ?_)
  intro e w9 h9
  obtain ⟨p5, c5, a5, rfl, hR9, hT9, hl9, -, hG9⟩ := h9
  have HI6 : Hid ((c5 = 0 ∧ Begun s p kd nm ns p1 p2 p3 p5 ∧ NmsIn w9 (fun b => w1.heap.size < b) Ap ns ∧ np = ns.length ∧ np ≤ cp) ∨ (c5 = 1 ∧ bDecl s D p a5)) := by
    have := step_inv HI5.out (goes_shut HS8.out.le hG9) (fun F h => (h.1 _ (tok_shut HS8.out.le F.2.2.2.2.1)).elim)
    refine this.imp (fun h => ⟨h.1, ?_⟩) id
    obtain ⟨_, ⟨hF, hsq, hnp, hcp, _, hnm⟩, hsg⟩ := h
    refine ⟨⟨hF.1.1.1, hF.1.1.2.1, hF.1.1.2.2, hF.1.2, ⟨p4, pk, hF.2, namesAt_iff.2 hsq, hsg⟩⟩, hnm.keep fun b hb hS => ⟨hS, hT9.at hb ?_⟩, hnp, hcp⟩
    have := HS8.out.hc
    have := HS8.out.hs
    omega
  have HS9 := hide (HS8.out.touched hT9 hR9 hl9)
  clear hR9 hT9 hl9 hG9 K8 HS8 HI5
  have hv := HS9.out.var
  have e0 : w9.cell? ⟨w1.heap.size, 0, none⟩ = some (.int .i64 (kd : Nat)) := cell_of hv 0 rfl
  have e13 : w9.cell? ⟨w1.heap.size, 13, none⟩ = some (.int .i64 0) := cell_of hv 13 rfl
  have ef : ∀ i, w9.frozen? ⟨w1.heap.size, i, none⟩ = false := fun i => frozen_of hv i
  have el : w1.heap.size < w9.heap.size := HS9.out.lt
  clear hv
  go_upto_if 63 with fail
  go_cut [6] (fun v wx => ∃ ar pA cA aA : Nat, v = .pointer (some ⟨w1.heap.size, 0, none⟩) ∧ Hid (RSt w rb s w1.heap.size #[.int .i64 (kd : Nat), .string nm, .slice Ap np cp, .int .i64 0, .int .i64 0, .string ⟨#[]⟩, .slice none 0 0, .slice none 0 0, .int .i64 0, .int .i64 0, .string ⟨#[]⟩, .slice none 0 0, .slice none 0 0, .int .i64 (ar : Nat), .slice none 0 0] pA cA aA wx) ∧ Hid ((cA = 0 ∧ Begun s p kd nm ns p1 p2 p3 p5 ∧ OnlyIf (kd = 3) 0 (NumAt s) ar p5 pA ∧ NmsIn wx (fun b => w1.heap.size < b) Ap ns ∧ np = ns.length ∧ np ≤ cp) ∨ (cA = 1 ∧ bDecl s D p aA)))
  case first =>
    as_aux_lemma =>
    by_cases hk3 : kd = 3
    rotate_left
    · have q3 : ((kd : Int) == 3) = false := by simp; omega
      have HK3 := hide hk3
      clear hk3
      go_wp2_with fail
      go_meet
      case rel => exact ⟨0, p5, c5, a5, rfl, HS9.out, HI6.out.imp (fun h => ⟨h.1, h.2.1, .inr ⟨HK3.out, rfl, rfl⟩, h.2.2⟩) id⟩
    have q3 : ((kd : Int) == 3) = true := by simp [hk3]
    have HK3 := hide hk3
    clear hk3
    have KT := hide (token_calls s p5 rb w9 hs HS9.out.le HS9.out.rd.c0 HS9.out.rd.c1)
    obtain ⟨k1, k2, k3, k4⟩ := tok_facts HS9.out.le
    have HNt := hide (num_tok HS9.out.le)
    have hfail : Hid (∀ W, RdAt W rb s p5 c5 a5 → Calls Tryz.prog 56 #[.pointer (some ⟨rb, 0, none⟩), .int .i64 ((tok s p5).at_ : Nat)] W fun e w' => ∃ c' a' : Nat, e = .returned (.tuple #[]) ∧ RdAt w' rb s p5 c' a' ∧ (c' ≠ 0 ∧ ((c5 ≠ 0 ∧ c' = c5 ∧ a' = a5) ∨ (c5 = 0 ∧ c' = 1 ∧ a' = (tok s p5).at_))) ∧ Touched W rb w') := fun W h => fail_any rb s p5 c5 a5 _ W h
    have hnext : Hid ((tok s p5).t ≠ ⟨#[]⟩ → Calls Tryz.prog 57 #[.pointer (some ⟨rb, 0, none⟩)] w9 fun e w' => ∃ (q : ByteArray) (p' c' a' : Nat), e = .returned (.string q) ∧ RdAt w' rb s p' c' a' ∧ Touched w9 rb w' ∧ p' ≤ s.size ∧ p5 ≤ p' ∧ Goes (fun (_ : Unit) p p' => p' = (tok s p).at_ + (tok s p).t.size) (fun _ _ => False) () p5 c5 a5 p' c' a') := fun h => nexts_calls rb s p5 c5 a5 w9 hs HS9.out.le HS9.out.rd h
    obtain ⟨t5, ht5⟩ : ∃ t5, t5 = (tok s p5).t := ⟨_, rfl⟩
    obtain ⟨k5, hk5⟩ : ∃ k5, k5 = (tok s p5).at_ := ⟨_, rfl⟩
    obtain ⟨ok5, hok5⟩ : ∃ ok5, ok5 = (tok s p5).ok := ⟨_, rfl⟩
    rw [← ht5, ← hk5] at HNt
    rw [← ht5, ← hk5, ← hok5] at KT
    rw [← hk5] at hfail
    rw [← ht5] at hnext
    have k4' : ok5 = false → t5 = ⟨#[]⟩ := by rw [hok5, ht5]; exact k4
    have k3' : t5.size ≤ 40 := by rw [ht5]; exact k3
    have HT5 := hide ht5
    have HK5 := hide hk5
    clear k1 k2 k3 k4 ht5 hk5 hok5
    rcases HNt.out with ⟨hne, hdg, hsz, hdgs, hnum⟩ | ⟨hno, hbad⟩
    · have hok : ok5 = true := by
        cases ok5
        · exact absurd (k4' rfl) hne
        · rfl
      subst hok
      have hpos := size_pos hne
      have y0 := ne_empty hne
      have g1 : decide (((t5[0]'hpos).toNat : Int) < 48) = false := by rw [at_eq hpos]; simp [digitB] at hdg; simp; omega
      have g2 : decide ((57 : Int) < ((t5[0]'hpos).toNat : Int)) = false := by rw [at_eq hpos]; simp [digitB] at hdg; simp; omega
      have g3 : decide ((2 : Int) < (t5.size : Int)) = false := by simp; omega
      have KN := hide (hnext.out hne)
      have KD := hide (fun W => rnumber_calls t5 W hdgs (by omega))
      have HNum := hide hnum
      clear hne hdg hdgs hnum k4' k3' hfail hnext HNt
      go_wp2_with (first | (go_at_call 33; refine KT.out.mono ?_; rintro e w' ⟨rfl, rfl⟩) | (go_at_call 57; refine KN.out.mono ?_))
      obtain ⟨w9, hw9⟩ : ∃ x, x = w' := ⟨_, rfl⟩
      subst hw9
      intro e w10 h9
      obtain ⟨q6, pA, cA, aA, rfl, hR, hT, hl, -, hG⟩ := h9
      have HI7 : Hid ((cA = 0 ∧ Begun s p kd nm ns p1 p2 p3 p5 ∧ OnlyIf (kd = 3) 0 (NumAt s) (decV t5) p5 pA ∧ NmsIn w10 (fun b => w1.heap.size < b) Ap ns ∧ np = ns.length ∧ np ≤ cp) ∨ (cA = 1 ∧ bDecl s D p aA)) := by
        refine (step_inv HI6.out hG (fun _ h => h.elim)).imp (fun h => ⟨h.1, h.2.1.1, .inl ⟨HK3.out, ?_⟩, h.2.1.2.1.keep fun b hb hS => ⟨hS, hT.at hb ?_⟩, h.2.1.2.2⟩) id
        · have e := h.2.2
          rw [← HT5.out, ← HK5.out] at e
          rw [e]
          exact HNum.out
        · have := HS9.out.hc
          have := HS9.out.hs
          omega
      have HS10 := hide (HS9.out.touched hT hR hl)
      have hv := HS10.out.var
      clear e0 e13 ef el
      have e13 : w10.cell? ⟨w1.heap.size, 13, none⟩ = some (.int .i64 0) := cell_of hv 13 rfl
      have ef : ∀ i, w10.frozen? ⟨w1.heap.size, i, none⟩ = false := fun i => frozen_of hv i
      have el : w1.heap.size < w10.heap.size := HS10.out.lt
      clear hv hR hT hl hG KN HI6 HNum
      go_wp2_with (go_at_call 60; refine (KD.out _).mono ?_; rintro e w' ⟨rfl, rfl⟩)
      go_meet
      case rel => exact ⟨decV t5, pA, cA, aA, rfl, HS10.out.set 13 _ _ rfl, HI7.out.imp (fun h => ⟨h.1, h.2.1, h.2.2.1, h.2.2.2.1.keep fun b hb hS => ⟨hS, Below.heap_setCell _ _ _ _ (by show b ≠ w1.heap.size; omega)⟩, h.2.2.2.2⟩) id⟩
    · have HBd := hide hbad
      have KF := hide (hfail.out w9 HS9.out.rd)
      clear hbad hnext hfail HNt
      go_upto_region 21 with (go_at_call 33; refine KT.out.mono ?_; rintro e w' ⟨rfl, rfl⟩)
      obtain ⟨w9, hw9⟩ : ∃ x, x = w' := ⟨_, rfl⟩
      subst hw9
      go_cut [90] (fun v wx => v = .bool true ∧ wx = w9)
      case first =>
        as_aux_lemma =>
        by_cases h0 : t5 = ⟨#[]⟩
        · have y0 := sameLit_pos (l := []) h0
          clear hno k4' h0
          cases ok5
          · go_wp2_with fail
            go_meet
            case rel => exact ⟨rfl, rfl⟩
          · go_wp2_with fail
            go_meet
            case rel => exact ⟨rfl, rfl⟩
        have y0 := ne_empty h0
        have hpos := size_pos h0
        have hok : ok5 = true := by
          cases ok5
          · exact absurd (k4' rfl) h0
          · rfl
        subst hok
        by_cases h1 : at_ t5 0 < 48
        · have g1 : decide (((t5[0]'hpos).toNat : Int) < 48) = true := by rw [at_eq hpos]; simp; omega
          clear hno k4' h0 h1
          go_wp2_with fail
          go_meet
          case rel => exact ⟨rfl, rfl⟩
        have g1 : decide (((t5[0]'hpos).toNat : Int) < 48) = false := by rw [at_eq hpos]; simp; omega
        by_cases h2 : 57 < at_ t5 0
        · have g2 : decide ((57 : Int) < ((t5[0]'hpos).toNat : Int)) = true := by rw [at_eq hpos]; simp; omega
          clear hno k4' h0 h1 h2
          go_wp2_with fail
          go_meet
          case rel => exact ⟨rfl, rfl⟩
        have g2 : decide ((57 : Int) < ((t5[0]'hpos).toNat : Int)) = false := by rw [at_eq hpos]; simp; omega
        have h3 : 2 < t5.size := by
          rcases Nat.lt_or_ge 2 t5.size with h | h
          · exact h
          · exact absurd ⟨h0, by simp [digitB]; omega, h⟩ hno
        have g3 : decide ((2 : Int) < (t5.size : Int)) = true := by simp; omega
        clear hno k4' h0 h1 h2 h3
        go_wp2_with fail
        go_meet
        case rel => exact ⟨rfl, rfl⟩
      case rest =>
      as_aux_lemma =>
      obtain ⟨rfl, hwx⟩ := hcut
      rename World => w9b
      subst hwx
      clear hno k4' e0 e13 ef el
      go_wp2_with (go_at_call 56; refine KF.out.mono ?_)
      intro e w3 h9
      obtain ⟨c3, a3, rfl, hR3, hc3, hT3⟩ := h9
      have HI8 : Hid ((c3 = 0 ∧ ∃ d, DeclAt s D d p p5 ∧ DeclV w3 (fun b => w.heap.size < b ∧ b ≠ w1.heap.size) D d (.agg #[.int .i64 (kd : Nat), .string nm, .slice Ap np cp, .int .i64 0, .int .i64 0, .string ⟨#[]⟩, .slice none 0 0, .slice none 0 0, .int .i64 0, .int .i64 0, .string ⟨#[]⟩, .slice none 0 0, .slice none 0 0, .int .i64 0, .slice none 0 0])) ∨ (c3 = 1 ∧ bDecl s D p a3)) := by
        rcases hc3 with ⟨_, ⟨g1, g2, g3⟩ | ⟨g1, g2, g3⟩⟩
        · rcases HI6.out with ⟨h, _⟩ | ⟨h, hb⟩
          · exact absurd h g1
          · exact .inr ⟨by omega, by rw [g3]; exact hb⟩
        · rcases HI6.out with ⟨h, hB⟩ | ⟨h, _⟩
          · exact .inr ⟨g2, hB.1.bad (.inl ⟨HK3.out, by rw [g3]; exact HBd.out⟩)⟩
          · omega
      obtain ⟨l, hl, hRg, hTh, hSz, hOne, hRs, hE⟩ := decl_ret (D := D) (p := p) (vs := #[.int .i64 (kd : Nat), .string nm, .slice Ap np cp, .int .i64 0, .int .i64 0, .string ⟨#[]⟩, .slice none 0 0, .slice none 0 0, .int .i64 0, .int .i64 0, .string ⟨#[]⟩, .slice none 0 0, .slice none 0 0, .int .i64 0, .slice none 0 0]) rfl (all_oneCell_toArray (by simp only [List.mem_cons, List.not_mem_nil, or_false]; rintro u (rfl | rfl | rfl | rfl | rfl | rfl | rfl | rfl | rfl | rfl | rfl | rfl | rfl | rfl | rfl) <;> rfl)) (HS9.out.touched hT3 hR3 HS9.out.le) HI8.out
      have HRg := hide hRg
      have HTh := hide hTh
      have HSz2 := hide hSz
      have HOne := hide hOne
      have HRs := hide hRs
      have HE := hide hE
      clear hl hRg hTh hSz hOne hRs hE hT3 hR3 hc3 KF
      go_wp2_with (first | (refine wpList_load_mid rfl 46 _ rfl w1.heap.size 0 rfl l _ HRg.out Tryz.underlying46 rfl HSz2.out ?_) | (refine wpList_store_mid rfl 46 _ _ rfl w.heap.size 0 l.toArray rfl rfl HTh.out HSz2.out HOne.out ?_))
      refine bodyPost_ret (v := .agg l.toArray) (by simp [results, Tryz.results34, asAddr, Act.put, HRs.out]) rfl ?_
      exact HE.out
  case rest =>
  obtain ⟨ar, pA, cA, aA, rfl, HS11, HI7⟩ := hcut
  rename World => w11
  clear HS9 HI6 e0 e13 ef el
  have hcw := HS11.out.hc
  have KT := hide (terms_calls rb s pA cA aA w11 hs HS11.out.le HS11.out.rd D wb wo wc hD hr0 hr1 (HW.out.touched HS11.out.old hr0 hr1))
  go_wp2_with (go_at_call 61; refine KT.out.mono ?_)
  intro e w12 h9
  obtain ⟨kt, nt, nmt, At, lt, ct, At', lt', ct', p6, c6, a6, ty, rfl, hR, hT, hl, -, hG, hin⟩ := h9
  have HI8 : Hid ((c6 = 0 ∧ (Begun s p kd nm ns p1 p2 p3 p5 ∧ OnlyIf (kd = 3) 0 (NumAt s) ar p5 pA ∧ RT s D ty pA p6 ∧ np = ns.length ∧ np ≤ cp) ∧ NmsIn w12 (fun b => w1.heap.size < b) Ap ns ∧ InTm w12 (fun b => w1.heap.size < b) D ty (.agg #[.int .i64 kt, .int .i64 nt, .string nmt, .slice At lt ct, .slice At' lt' ct'])) ∨ (c6 = 1 ∧ bDecl s D p a6)) := by
    refine (step_inv HI7.out hG (fun F h => F.1.bad (.inr ⟨ar, pA, F.2.1, .inl h⟩))).imp (fun h => ⟨h.1, ?_⟩) id
    obtain ⟨hc0, ⟨hB, hO, hN, hnp, hcp⟩, hrt⟩ := h
    have := HS11.out.lt
    exact ⟨⟨hB, hO, hrt, hnp, hcp⟩, hN.keep fun b hb hS => ⟨hS, hT.at hb (by omega)⟩, (hin hc0).keep fun b _ hb => ⟨by omega, rfl⟩⟩
  have HS12 := hide (HS11.out.touched hT hR hl)
  clear hR hT hl hG hin KT HS11 HI7
  have hv := HS12.out.var
  have e0 : w12.cell? ⟨w1.heap.size, 0, none⟩ = some (.int .i64 (kd : Nat)) := cell_of hv 0 rfl
  have e3 : w12.cell? ⟨w1.heap.size, 3, none⟩ = some (.int .i64 0) := cell_of hv 3 rfl
  have e4 : w12.cell? ⟨w1.heap.size, 4, none⟩ = some (.int .i64 0) := cell_of hv 4 rfl
  have e5 : w12.cell? ⟨w1.heap.size, 5, none⟩ = some (.string ⟨#[]⟩) := cell_of hv 5 rfl
  have e6 : w12.cell? ⟨w1.heap.size, 6, none⟩ = some (.slice none 0 0) := cell_of hv 6 rfl
  have e7 : w12.cell? ⟨w1.heap.size, 7, none⟩ = some (.slice none 0 0) := cell_of hv 7 rfl
  have ef : ∀ i, w12.frozen? ⟨w1.heap.size, i, none⟩ = false := fun i => frozen_of hv i
  have el : w1.heap.size < w12.heap.size := HS12.out.lt
  clear hv
  go_upto_region 27 with fail
  have HS13 : Hid (RSt w rb s w1.heap.size #[.int .i64 (kd : Nat), .string nm, .slice Ap np cp, .int .i64 kt, .int .i64 nt, .string nmt, .slice At lt ct, .slice At' lt' ct', .int .i64 0, .int .i64 0, .string ⟨#[]⟩, .slice none 0 0, .slice none 0 0, .int .i64 (ar : Nat), .slice none 0 0] p6 c6 a6 (((((w12.setCell ⟨w1.heap.size, 3, none⟩ (.int .i64 kt)).setCell ⟨w1.heap.size, 4, none⟩ (.int .i64 nt)).setCell ⟨w1.heap.size, 5, none⟩ (.string nmt)).setCell ⟨w1.heap.size, 6, none⟩ (.slice At lt ct)).setCell ⟨w1.heap.size, 7, none⟩ (.slice At' lt' ct'))) := ((((HS12.out.set 3 _ _ rfl).set 4 _ _ rfl).set 5 _ _ rfl).set 6 _ _ rfl).set 7 _ _ rfl
  have HI9 : Hid ((c6 = 0 ∧ (Begun s p kd nm ns p1 p2 p3 p5 ∧ OnlyIf (kd = 3) 0 (NumAt s) ar p5 pA ∧ RT s D ty pA p6 ∧ np = ns.length ∧ np ≤ cp) ∧ NmsIn (((((w12.setCell ⟨w1.heap.size, 3, none⟩ (.int .i64 kt)).setCell ⟨w1.heap.size, 4, none⟩ (.int .i64 nt)).setCell ⟨w1.heap.size, 5, none⟩ (.string nmt)).setCell ⟨w1.heap.size, 6, none⟩ (.slice At lt ct)).setCell ⟨w1.heap.size, 7, none⟩ (.slice At' lt' ct')) (fun b => w1.heap.size < b) Ap ns ∧ InTm (((((w12.setCell ⟨w1.heap.size, 3, none⟩ (.int .i64 kt)).setCell ⟨w1.heap.size, 4, none⟩ (.int .i64 nt)).setCell ⟨w1.heap.size, 5, none⟩ (.string nmt)).setCell ⟨w1.heap.size, 6, none⟩ (.slice At lt ct)).setCell ⟨w1.heap.size, 7, none⟩ (.slice At' lt' ct')) (fun b => w1.heap.size < b) D ty (.agg #[.int .i64 kt, .int .i64 nt, .string nmt, .slice At lt ct, .slice At' lt' ct'])) ∨ (c6 = 1 ∧ bDecl s D p a6)) := HI8.out.imp (fun h => ⟨h.1, h.2.1, h.2.2.1.keep fun b hb hS => ⟨hS, five_at _ _ _ _ _ (by omega)⟩, h.2.2.2.keep fun b hb hS => ⟨hS, five_at _ _ _ _ _ (by omega)⟩⟩) id
  clear HS12 HI8 e0 e3 e4 e5 e6 e7 ef el
  generalize (((((w12.setCell ⟨w1.heap.size, 3, none⟩ (.int .i64 kt)).setCell ⟨w1.heap.size, 4, none⟩ (.int .i64 nt)).setCell ⟨w1.heap.size, 5, none⟩ (.string nmt)).setCell ⟨w1.heap.size, 6, none⟩ (.slice At lt ct)).setCell ⟨w1.heap.size, 7, none⟩ (.slice At' lt' ct')) = w13 at *
  have hv := HS13.out.var
  have e0 : w13.cell? ⟨w1.heap.size, 0, none⟩ = some (.int .i64 (kd : Nat)) := cell_of hv 0 rfl
  have e8 : w13.cell? ⟨w1.heap.size, 8, none⟩ = some (.int .i64 0) := cell_of hv 8 rfl
  have e9 : w13.cell? ⟨w1.heap.size, 9, none⟩ = some (.int .i64 0) := cell_of hv 9 rfl
  have e10 : w13.cell? ⟨w1.heap.size, 10, none⟩ = some (.string ⟨#[]⟩) := cell_of hv 10 rfl
  have e11 : w13.cell? ⟨w1.heap.size, 11, none⟩ = some (.slice none 0 0) := cell_of hv 11 rfl
  have e12 : w13.cell? ⟨w1.heap.size, 12, none⟩ = some (.slice none 0 0) := cell_of hv 12 rfl
  have ef : ∀ i, w13.frozen? ⟨w1.heap.size, i, none⟩ = false := fun i => frozen_of hv i
  have el : w1.heap.size < w13.heap.size := HS13.out.lt
  clear hv
  go_upto_if 105 with fail
  go_cut [6] (fun v wx => ∃ (vl : Tm) (pV cV aV : Nat) (kv nv : Int) (nmv : ByteArray) (Av : Option Addr) (lv cv : Nat) (Av' : Option Addr) (lv' cv' : Nat), v = .pointer (some ⟨w1.heap.size, 0, none⟩) ∧ Hid (RSt w rb s w1.heap.size #[.int .i64 (kd : Nat), .string nm, .slice Ap np cp, .int .i64 kt, .int .i64 nt, .string nmt, .slice At lt ct, .slice At' lt' ct', .int .i64 kv, .int .i64 nv, .string nmv, .slice Av lv cv, .slice Av' lv' cv', .int .i64 (ar : Nat), .slice none 0 0] pV cV aV wx) ∧ Hid ((cV = 0 ∧ (Begun s p kd nm ns p1 p2 p3 p5 ∧ OnlyIf (kd = 3) 0 (NumAt s) ar p5 pA ∧ RT s D ty pA p6 ∧ np = ns.length ∧ np ≤ cp) ∧ OnlyIf (kd = 2) zeroT (RT s D) vl p6 pV ∧ NmsIn wx (fun b => w1.heap.size < b) Ap ns ∧ InTm wx (fun b => w1.heap.size < b) D ty (.agg #[.int .i64 kt, .int .i64 nt, .string nmt, .slice At lt ct, .slice At' lt' ct']) ∧ InTm wx (fun b => w1.heap.size < b) D vl (.agg #[.int .i64 kv, .int .i64 nv, .string nmv, .slice Av lv cv, .slice Av' lv' cv'])) ∨ (cV = 1 ∧ bDecl s D p aV)))
  case first =>
    as_aux_lemma =>
    by_cases hk2 : kd = 2
    rotate_left
    · have q2 : ((kd : Int) == 2) = false := by simp; omega
      have HK2 := hide hk2
      clear hk2
      go_wp2_with fail
      go_meet
      case rel => exact ⟨zeroT, p6, c6, a6, 0, 0, ⟨#[]⟩, none, 0, 0, none, 0, 0, rfl, HS13.out, HI9.out.imp (fun h => ⟨h.1, h.2.1, .inr ⟨HK2.out, rfl, rfl⟩, h.2.2.1, h.2.2.2, zero_in _ _ _ (by omega)⟩) id⟩
    have q2 : ((kd : Int) == 2) = true := by simp [hk2]
    have HK2 := hide hk2
    clear hk2
    have KT := hide (terms_calls rb s p6 c6 a6 w13 hs HS13.out.le HS13.out.rd D wb wo wc hD hr0 hr1 (HW.out.touched HS13.out.old hr0 hr1))
    go_wp2_with (go_at_call 61; refine KT.out.mono ?_)
    intro e w14 h9
    obtain ⟨kv, nv, nmv, Av, lv, cv, Av', lv', cv', pV, cV, aV, vl, rfl, hR, hT, hl, -, hG, hin⟩ := h9
    have HI10 : Hid ((cV = 0 ∧ (Begun s p kd nm ns p1 p2 p3 p5 ∧ OnlyIf (kd = 3) 0 (NumAt s) ar p5 pA ∧ RT s D ty pA p6 ∧ np = ns.length ∧ np ≤ cp) ∧ OnlyIf (kd = 2) zeroT (RT s D) vl p6 pV ∧ NmsIn w14 (fun b => w1.heap.size < b) Ap ns ∧ InTm w14 (fun b => w1.heap.size < b) D ty (.agg #[.int .i64 kt, .int .i64 nt, .string nmt, .slice At lt ct, .slice At' lt' ct']) ∧ InTm w14 (fun b => w1.heap.size < b) D vl (.agg #[.int .i64 kv, .int .i64 nv, .string nmv, .slice Av lv cv, .slice Av' lv' cv'])) ∨ (cV = 1 ∧ bDecl s D p aV)) := by
      refine (step_inv HI9.out hG (fun F h => F.1.1.bad (.inr ⟨ar, pA, F.1.2.1, .inr ⟨ty, p6, F.1.2.2.1, .inl ⟨HK2.out, h⟩⟩⟩))).imp (fun h => ⟨h.1, ?_⟩) id
      obtain ⟨hc0, ⟨hB, hN, hI⟩, hrt⟩ := h
      have := HS13.out.lt
      exact ⟨hB, .inl ⟨HK2.out, hrt⟩, hN.keep fun b hb hS => ⟨hS, hT.at hb (by omega)⟩, hI.keep fun b hb hS => ⟨hS, hT.at hb (by omega)⟩, (hin hc0).keep fun b _ hb => ⟨by omega, rfl⟩⟩
    have HS14 := hide (HS13.out.touched hT hR hl)
    clear hR hT hl hG hin KT e0 e8 e9 e10 e11 e12 ef el
    have hv := HS14.out.var
    have e8 : w14.cell? ⟨w1.heap.size, 8, none⟩ = some (.int .i64 0) := cell_of hv 8 rfl
    have e9 : w14.cell? ⟨w1.heap.size, 9, none⟩ = some (.int .i64 0) := cell_of hv 9 rfl
    have e10 : w14.cell? ⟨w1.heap.size, 10, none⟩ = some (.string ⟨#[]⟩) := cell_of hv 10 rfl
    have e11 : w14.cell? ⟨w1.heap.size, 11, none⟩ = some (.slice none 0 0) := cell_of hv 11 rfl
    have e12 : w14.cell? ⟨w1.heap.size, 12, none⟩ = some (.slice none 0 0) := cell_of hv 12 rfl
    have ef : ∀ i, w14.frozen? ⟨w1.heap.size, i, none⟩ = false := fun i => frozen_of hv i
    have el : w1.heap.size < w14.heap.size := HS14.out.lt
    clear hv
    go_wp2_with fail
    go_meet
    case rel => exact ⟨vl, pV, cV, aV, kv, nv, nmv, Av, lv, cv, Av', lv', cv', rfl, ((((HS14.out.set 8 _ _ rfl).set 9 _ _ rfl).set 10 _ _ rfl).set 11 _ _ rfl).set 12 _ _ rfl, HI10.out.imp (fun h => ⟨h.1, h.2.1, h.2.2.1, h.2.2.2.1.keep fun b hb hS => ⟨hS, five_at _ _ _ _ _ (by omega)⟩, h.2.2.2.2.1.keep fun b hb hS => ⟨hS, five_at _ _ _ _ _ (by omega)⟩, h.2.2.2.2.2.keep fun b hb hS => ⟨hS, five_at _ _ _ _ _ (by omega)⟩⟩) id⟩
  case rest =>
  obtain ⟨vl, pV, cV, aV, kv, nv, nmv, Av, lv, cv, Av', lv', cv', rfl, HS15, HI11⟩ := hcut
  rename World => w15
  clear HS13 HI9 e0 e8 e9 e10 e11 e12 ef el
  have hcl := HS15.out.lt
  obtain ⟨VS, HVS⟩ : ∃ VS : Option Addr → Nat → Nat → Array Value, Hid (∀ A n c, VS A n c = #[.int .i64 (kd : Nat), .string nm, .slice Ap np cp, .int .i64 kt, .int .i64 nt, .string nmt, .slice At lt ct, .slice At' lt' ct', .int .i64 kv, .int .i64 nv, .string nmv, .slice Av lv cv, .slice Av' lv' cv', .int .i64 (ar : Nat), .slice A n c]) := ⟨fun A n c => #[.int .i64 (kd : Nat), .string nm, .slice Ap np cp, .int .i64 kt, .int .i64 nt, .string nmt, .slice At lt ct, .slice At' lt' ct', .int .i64 kv, .int .i64 nv, .string nmv, .slice Av lv cv, .slice Av' lv' cv', .int .i64 (ar : Nat), .slice A n c], fun _ _ _ => rfl⟩
  have HV0 : Hid (∀ A n c, (VS A n c)[0]? = some (.int .i64 (kd : Nat))) := fun A n c => by rw [HVS.out]; rfl
  have HV14 : Hid (∀ A n c, (VS A n c)[14]? = some (.slice A n c)) := fun A n c => by rw [HVS.out]; rfl
  have HVs : Hid (∀ A n c A' n' c', (VS A n c).setIfInBounds 14 (.slice A' n' c') = VS A' n' c') := fun A n c A' n' c' => by rw [HVS.out, HVS.out]; rfl
  obtain ⟨F, HF⟩ : ∃ F : Prop, Hid (F = ((Begun s p kd nm ns p1 p2 p3 p5 ∧ OnlyIf (kd = 3) 0 (NumAt s) ar p5 pA ∧ RT s D ty pA p6 ∧ np = ns.length ∧ np ≤ cp) ∧ OnlyIf (kd = 2) zeroT (RT s D) vl p6 pV)) := ⟨_, rfl⟩
  obtain ⟨Mem, HMem⟩ : ∃ Mem : World → Prop, Hid (∀ W, Mem W = (NmsIn W (fun b => w1.heap.size < b) Ap ns ∧ InTm W (fun b => w1.heap.size < b) D ty (.agg #[.int .i64 kt, .int .i64 nt, .string nmt, .slice At lt ct, .slice At' lt' ct']) ∧ InTm W (fun b => w1.heap.size < b) D vl (.agg #[.int .i64 kv, .int .i64 nv, .string nmv, .slice Av lv cv, .slice Av' lv' cv']))) := ⟨fun W => _, fun _ => rfl⟩
  have HMk : Hid (∀ W W', Mem W → Kept w1.heap.size W W' → Mem W') := fun W W' h hk => by
    rw [HMem.out] at h ⊢
    exact ⟨h.1.kept hk, h.2.1.kept hk, h.2.2.kept hk⟩
  have HBF : Hid (kd = 3 → F → ∀ cs pk, SeqG (CtorAt s D) cs pV pk → (tok s pk).t = ⟨#[40]⟩ → ∀ a, bCtor s D pk a → bDecl s D p a) := fun h3 hF cs pk hsq hsh a hb => by
    rw [HF.out] at hF
    exact hF.1.1.bad (.inr ⟨ar, pA, hF.1.2.1, .inr ⟨ty, p6, hF.1.2.2.1, .inr ⟨vl, pV, hF.2, .inl ⟨h3, cs, pk, hsq, fun q h => by rw [shut_tok h] at hsh; exact absurd hsh (by decide), hb⟩⟩⟩⟩)
  have HS16 : Hid (RSt w rb s w1.heap.size (VS none 0 0) pV cV aV w15) := by rw [HVS.out]; exact HS15.out
  have HI16 : Hid ((cV = 0 ∧ F ∧ Mem w15) ∨ (cV = 1 ∧ bDecl s D p aV)) := by
    rw [HMem.out, HF.out]
    exact HI11.out.imp (fun h => ⟨h.1, ⟨h.2.1, h.2.2.1⟩, h.2.2.2⟩) id
  clear HS15 HI11
  go_upto_block 3 with fail
  go_cut [6] (fun v wx => ∃ (cs : List (ByteArray × Tm)) (pC cC aC : Nat) (Ac : Option Addr) (nc cc : Nat), v = .pointer (some ⟨w1.heap.size, 0, none⟩) ∧ Hid (RSt w rb s w1.heap.size (VS Ac nc cc) pC cC aC wx) ∧ Hid ((cC = 0 ∧ F ∧ SeqG (CtorAt s D) cs pV pC ∧ (kd = 3 → (tok s pC).t ≠ ⟨#[40]⟩) ∧ (kd ≠ 3 → cs = [] ∧ pC = pV) ∧ nc = cs.length ∧ Mem wx ∧ CtsIn wx (fun b => w1.heap.size < b) D Ac cs) ∨ (cC = 1 ∧ bDecl s D p aC)))
  case first =>
    clear HVS HF HMem
    obtain ⟨i0, hi, hz0, hz1', hz2⟩ := infoParts Tryz.info64'
    have HSt0 : Hid (∃ (cs : List (ByteArray × Tm)) (xs : List Value) (pk code ak : Nat) (Ac : Option Addr) (nc cc : Nat), (2 * s.size + 1 - (2 * pV + (if cV = 0 then 0 else 1))) + 2 * pk + (if code = 0 then 0 else 1) = 2 * s.size + 1 ∧ Hid (RSt w rb s w1.heap.size (VS Ac nc cc) pk code ak w15) ∧ Hid (Kept w1.heap.size w15 w15 ∧ (code = 0 → cV = 0)) ∧ Hid ((code = 0 ∧ F ∧ SeqG (CtorAt s D) cs pV pk ∧ (kd ≠ 3 → cs = [] ∧ pk = pV) ∧ cs.length ≤ pk ∧ nc = cs.length ∧ GRow (CK D cs) w15 64 6 0 w15.heap.size cs.length (.slice Ac nc cc) xs) ∨ (code = 1 ∧ bDecl s D p ak))) := by
      refine ⟨[], [], pV, cV, aV, none, 0, 0, ?_, HS16.out, ⟨Kept.refl _ _, fun h => h⟩, ?_⟩
      · have := HS16.out.le
        split <;> omega
      · exact HI16.out.imp (fun h => ⟨h.1, h.2.1, rfl, fun _ => ⟨rfl, rfl⟩, Nat.zero_le _, rfl, GRow.start _ _ _ _ _ _⟩) id
    have HC15 : Hid (cV = 0 → Mem w15) := fun h0 => by
      rcases HI16.out with h | h
      · exact h.2.2
      · omega
    have hbase : w1.heap.size < w15.heap.size := HS16.out.lt
    clear HI16
    go_wp2_with fail
    go_loopg [] (2 * s.size + 1 - (2 * pV + (if cV = 0 then 0 else 1))) (fun g wr => ∃ (cs : List (ByteArray × Tm)) (xs : List Value) (pk code ak : Nat) (Ac : Option Addr) (nc cc : Nat), g + 2 * pk + (if code = 0 then 0 else 1) = 2 * s.size + 1 ∧ Hid (RSt w rb s w1.heap.size (VS Ac nc cc) pk code ak wr) ∧ Hid (Kept w1.heap.size w15 wr ∧ (code = 0 → cV = 0)) ∧ Hid ((code = 0 ∧ F ∧ SeqG (CtorAt s D) cs pV pk ∧ (kd ≠ 3 → cs = [] ∧ pk = pV) ∧ cs.length ≤ pk ∧ nc = cs.length ∧ GRow (CK D cs) wr 64 6 0 w15.heap.size cs.length (.slice Ac nc cc) xs) ∨ (code = 1 ∧ bDecl s D p ak)))
    case atStart => exact HSt0.out
    case round =>
      clear HSt0 HS16
      obtain ⟨cs, xs, pk, code, ak, Ac, nc, cc, hg, HR, HKq, HJ⟩ := hrel
      have HKp := hide HKq.out.1
      have HC0 := hide HKq.out.2
      clear HKq
      have hv := HR.out.var
      have e0 : wr.cell? ⟨w1.heap.size, 0, none⟩ = some (.int .i64 (kd : Nat)) := cell_of hv 0 (HV0.out _ _ _)
      have el : w1.heap.size < wr.heap.size := HR.out.lt
      have r2 := HR.out.rd.c2
      have rl := HR.out.rd.lt
      clear hv
      by_cases hk3 : kd = 3
      rotate_left
      · have q3 : ((kd : Int) == 3) = false := by simp; omega
        have HK3 := hide hk3
        have HX : Hid ((code = 0 ∧ F ∧ SeqG (CtorAt s D) cs pV pk ∧ (kd = 3 → (tok s pk).t ≠ ⟨#[40]⟩) ∧ (kd ≠ 3 → cs = [] ∧ pk = pV) ∧ nc = cs.length ∧ Mem wr ∧ CtsIn wr (fun b => w1.heap.size < b) D Ac cs) ∨ (code = 1 ∧ bDecl s D p ak)) := by
          refine HJ.out.imp (fun h => ?_) id
          obtain ⟨h0, hG, hsq, hnil, hfew, hnc, hrow⟩ := h
          refine ⟨h0, hG, hsq, fun h => absurd h hk3, hnil, hnc, HMk.out _ _ (HC15.out (HC0.out h0)) HKp.out, ?_⟩
          rw [(hnil hk3).1]
          exact fun i hi => absurd hi (by simp)
        clear hk3
        go_wp2_with fail
        go_meet
        case rel => exact ⟨cs, pk, code, ak, Ac, nc, cc, rfl, HR.out, HX.out⟩
      have q3 : ((kd : Int) == 3) = true := by simp [hk3]
      have HK3 := hide hk3
      clear hk3
      by_cases hc : code = 0
      rotate_left
      · have q : ((code : Int) == 0) = false := by simp; omega
        have HX : Hid (code = 1 ∧ bDecl s D p ak) := by
          rcases HJ.out with h | h
          · exact absurd h.1 hc
          · exact h
        clear hc hg
        go_wp2_with fail
        go_meet
        case rel => exact ⟨cs, pk, code, ak, Ac, nc, cc, rfl, HR.out, .inr HX.out⟩
      subst hc
      obtain ⟨hF, hsq, hnil, hfew, hnc, hrow⟩ : F ∧ SeqG (CtorAt s D) cs pV pk ∧ (kd ≠ 3 → cs = [] ∧ pk = pV) ∧ cs.length ≤ pk ∧ nc = cs.length ∧ GRow (CK D cs) wr 64 6 0 w15.heap.size cs.length (.slice Ac nc cc) xs := by
        rcases HJ.out with h | h
        · exact h.2
        · exact absurd h.1 (by decide)
      have HGF := hide hF
      have HSq := hide hsq
      have HNc := hide hnc
      have HRow := hide hrow
      have HFew := hide hfew
      rw [if_pos rfl] at hg
      have HG := hide hg
      have HPl := hide HR.out.le
      clear HJ hF hsq hnil hnc hrow hfew hg
      obtain ⟨t9, ht9⟩ : ∃ t9, t9 = (tok s pk).t := ⟨_, rfl⟩
      have KP := hide (peek_calls rb s pk ak wr hs HR.out.le HR.out.rd)
      rw [← ht9] at KP
      have HT9 := hide ht9
      clear ht9
      by_cases hsh : t9 = ⟨#[40]⟩
      rotate_left
      · have q := sameLit_neg (l := [40]) hsh
        have HX : Hid ((tok s pk).t ≠ ⟨#[40]⟩) := fun e => hsh (HT9.out.trans e)
        have HM : Hid (Mem wr ∧ CtsIn wr (fun b => w1.heap.size < b) D Ac cs) := by
          refine ⟨HMk.out _ _ (HC15.out (HC0.out rfl)) HKp.out, ?_⟩
          exact (CtsIn.of_row HRow.out).keep fun b _ hb => ⟨by omega, rfl⟩
        clear hsh HT9
        go_wp2_with (go_at_call 59; refine KP.out.mono ?_; rintro e w9' ⟨rfl, rfl⟩)
        go_meet
        case rel => exact ⟨cs, pk, 0, ak, Ac, nc, cc, rfl, HR.out, .inl ⟨rfl, HGF.out, HSq.out, fun _ => HX.out, fun h => absurd HK3.out h, HNc.out, HM.out⟩⟩
      have q := sameLit_pos (l := [40]) hsh
      have HSh : Hid ((tok s pk).t = ⟨#[40]⟩) := HT9.out.symm.trans hsh
      have HBc : Hid (∀ a, bCtor s D pk a → bDecl s D p a) := HBF.out HK3.out HGF.out cs pk HSq.out HSh.out
      have hcw := HR.out.hc
      have hsw := HR.out.hs
      clear hsh HT9 HBF
      have K1 := hide (takes_calls rb s pk 0 ak wr hs HR.out.le HR.out.rd ⟨#[40]⟩ (by decide))
      go_wp2_with (first | (go_at_call 59; refine KP.out.mono ?_; rintro e w9' ⟨rfl, rfl⟩) | (go_at_call 55; refine K1.out.mono ?_))
      obtain ⟨wr, hwr⟩ : ∃ x, x = w9' := ⟨_, rfl⟩
      subst hwr
      intro e v1 h9
      obtain ⟨q1, d1, b1, rfl, hR1, hT1, hl1, hm1, hG1⟩ := h9
      have HI1' : Hid ((d1 = 0 ∧ True ∧ SignAt s 40 pk q1) ∨ (d1 = 1 ∧ bDecl s D p b1)) := step_inv (F := True) (B := bDecl s D p) (.inl ⟨rfl, trivial⟩) (goes_open HR.out.le hG1) (fun _ h => HBc.out _ (.inl h))
      have HS1 := hide (HR.out.touched hT1 hR1 hl1)
      have HU1 := hide hT1
      clear hR1 hT1 hl1 hG1 K1 KP e0 r2 rl el
      have K2 := hide (takes_calls rb s q1 d1 b1 v1 hs HS1.out.le HS1.out.rd ⟨#[99, 116, 111, 114]⟩ (by decide))
      go_wp2_with (go_at_call 55; refine K2.out.mono ?_)
      intro e v2 h9
      obtain ⟨q2, d2, b2, rfl, hR2, hT2, hl2, hm2, hG2⟩ := h9
      have HI2' : Hid ((d2 = 0 ∧ (True ∧ SignAt s 40 pk q1) ∧ WordAt s cword q1 q2) ∨ (d2 = 1 ∧ bDecl s D p b2)) := step_inv HI1'.out (goes_cword HS1.out.le hG2) (fun F h => HBc.out _ (.inr ⟨(), q1, F.2, .inl h⟩))
      have HS2 := hide (HS1.out.touched hT2 hR2 hl2)
      have HU2 := hide (HU1.out.trans hT2)
      clear hR2 hT2 hl2 hG2 K2 HS1 HU1 HI1'
      have K3 := hide (names_calls rb s q2 d2 b2 v2 hs HS2.out.le HS2.out.rd)
      go_wp2_with (go_at_call 58; refine K3.out.mono ?_)
      intro e v3 h9
      obtain ⟨qn, q3', d3, b3, rfl, hR3, hT3, hl3, hm3, hG3⟩ := h9
      have HI3' : Hid ((d3 = 0 ∧ ((True ∧ SignAt s 40 pk q1) ∧ WordAt s cword q1 q2) ∧ WordAt s qn q2 q3') ∨ (d3 = 1 ∧ bDecl s D p b3)) := step_inv HI2'.out hG3 (fun F h => HBc.out _ (.inr ⟨(), q1, F.1.2, .inr ⟨(), q2, F.2, .inl h⟩⟩))
      have HS3' := hide ((HS2.out.touched hT3 hR3 hl3).alloc (.cells #[.string qn, .int .i64 0, .int .i64 0, .string ⟨#[]⟩, .slice none 0 0, .slice none 0 0] 64))
      have HU3 := hide ((HU2.out.trans hT3).trans (Touched.alloc _ rb (.cells #[.string qn, .int .i64 0, .int .i64 0, .string ⟨#[]⟩, .slice none 0 0, .slice none 0 0] 64)))
      have hz3 := (HU2.out.trans hT3).size
      have hbx : w1.heap.size < v3.heap.size := by have := HR.out.lt; omega
      have HBx : Hid ((v3.alloc (.cells #[.string qn, .int .i64 0, .int .i64 0, .string ⟨#[]⟩, .slice none 0 0, .slice none 0 0] 64)).heap[v3.heap.size]? = some (.cells #[.string qn, .int .i64 0, .int .i64 0, .string ⟨#[]⟩, .slice none 0 0, .slice none 0 0] 64 (0, 0))) := heap_alloc_new v3 _
      clear hR3 hT3 hl3 hG3 K3 HS2 HU2 HI2'
      have K4 := hide (terms_calls rb s q3' d3 b3 _ hs HS3'.out.le HS3'.out.rd D wb wo wc hD hr0 hr1 (HW.out.touched HS3'.out.old hr0 hr1))
      go_wp2_with (go_at_call 61; refine K4.out.mono ?_)
      intro e v4 h9
      obtain ⟨kx, nx, nmx, Ax, lx, cx, Ax', lx', cx', q4', d4, b4, tx, rfl, hR4, hT4, hl4, hm4, hG4, hin4⟩ := h9
      have HI4' : Hid ((d4 = 0 ∧ (((True ∧ SignAt s 40 pk q1) ∧ WordAt s cword q1 q2) ∧ WordAt s qn q2 q3') ∧ RT s D tx q3' q4') ∨ (d4 = 1 ∧ bDecl s D p b4)) := step_inv HI3'.out hG4 (fun F h => HBc.out _ (.inr ⟨(), q1, F.1.1.2, .inr ⟨(), q2, F.1.2, .inr ⟨qn, q3', F.2, .inl h⟩⟩⟩))
      have hz4 := hT4.size
      simp at hz4
      have HB4 : Hid (v4.heap[v3.heap.size]? = some (.cells #[.string qn, .int .i64 0, .int .i64 0, .string ⟨#[]⟩, .slice none 0 0, .slice none 0 0] 64 (0, 0))) := (hT4.at (by simp) (by omega)).trans HBx.out
      have HS4' := hide (HS3'.out.touched hT4 hR4 hl4)
      have HU4 := hide (HU3.out.trans hT4)
      have HIn4 : Hid (d4 = 0 → InTm v4 (fun b => v3.heap.size < b) D tx (.agg #[.int .i64 kx, .int .i64 nx, .string nmx, .slice Ax lx cx, .slice Ax' lx' cx'])) := fun h0 => (hin4 h0).keep fun b _ hb => ⟨by simp at hb; omega, rfl⟩
      have hv := HB4.out
      have x1 : v4.cell? ⟨v3.heap.size, 1, none⟩ = some (.int .i64 0) := cell_of hv 1 rfl
      have x2 : v4.cell? ⟨v3.heap.size, 2, none⟩ = some (.int .i64 0) := cell_of hv 2 rfl
      have x3 : v4.cell? ⟨v3.heap.size, 3, none⟩ = some (.string ⟨#[]⟩) := cell_of hv 3 rfl
      have x4 : v4.cell? ⟨v3.heap.size, 4, none⟩ = some (.slice none 0 0) := cell_of hv 4 rfl
      have x5 : v4.cell? ⟨v3.heap.size, 5, none⟩ = some (.slice none 0 0) := cell_of hv 5 rfl
      have xf : ∀ i, v4.frozen? ⟨v3.heap.size, i, none⟩ = false := fun i => frozen_of hv i
      have xl : v3.heap.size < v4.heap.size := (Array.getElem?_eq_some_iff.1 hv).1
      clear hv hR4 hT4 hl4 hG4 hin4 K4 HS3' HU3 HI3' HBx hz4
      go_upto_region 34 with fail
      have HS5' : Hid (RSt w rb s w1.heap.size (VS Ac nc cc) q4' d4 b4 (((((v4.setCell ⟨v3.heap.size, 1, none⟩ (.int .i64 kx)).setCell ⟨v3.heap.size, 2, none⟩ (.int .i64 nx)).setCell ⟨v3.heap.size, 3, none⟩ (.string nmx)).setCell ⟨v3.heap.size, 4, none⟩ (.slice Ax lx cx)).setCell ⟨v3.heap.size, 5, none⟩ (.slice Ax' lx' cx'))) := ((((HS4'.out.other hbx 1 _).other hbx 2 _).other hbx 3 _).other hbx 4 _).other hbx 5 _
      have HU5 : Hid (Touched wr rb (((((v4.setCell ⟨v3.heap.size, 1, none⟩ (.int .i64 kx)).setCell ⟨v3.heap.size, 2, none⟩ (.int .i64 nx)).setCell ⟨v3.heap.size, 3, none⟩ (.string nmx)).setCell ⟨v3.heap.size, 4, none⟩ (.slice Ax lx cx)).setCell ⟨v3.heap.size, 5, none⟩ (.slice Ax' lx' cx'))) := ((((HU4.out.setNew (a := ⟨v3.heap.size, 1, none⟩) hz3 _).setNew (a := ⟨v3.heap.size, 2, none⟩) hz3 _).setNew (a := ⟨v3.heap.size, 3, none⟩) hz3 _).setNew (a := ⟨v3.heap.size, 4, none⟩) hz3 _).setNew (a := ⟨v3.heap.size, 5, none⟩) hz3 _
      have HB5 : Hid ((((((v4.setCell ⟨v3.heap.size, 1, none⟩ (.int .i64 kx)).setCell ⟨v3.heap.size, 2, none⟩ (.int .i64 nx)).setCell ⟨v3.heap.size, 3, none⟩ (.string nmx)).setCell ⟨v3.heap.size, 4, none⟩ (.slice Ax lx cx)).setCell ⟨v3.heap.size, 5, none⟩ (.slice Ax' lx' cx')).heap[v3.heap.size]? = some (.cells #[.string qn, .int .i64 kx, .int .i64 nx, .string nmx, .slice Ax lx cx, .slice Ax' lx' cx'] 64 (0, 0))) := by
        have := HB4.out
        simp [Hid, World.setCell, Array.getElem?_modify, this]
      have HIn5 : Hid (d4 = 0 → InTm (((((v4.setCell ⟨v3.heap.size, 1, none⟩ (.int .i64 kx)).setCell ⟨v3.heap.size, 2, none⟩ (.int .i64 nx)).setCell ⟨v3.heap.size, 3, none⟩ (.string nmx)).setCell ⟨v3.heap.size, 4, none⟩ (.slice Ax lx cx)).setCell ⟨v3.heap.size, 5, none⟩ (.slice Ax' lx' cx')) (fun b => v3.heap.size < b) D tx (.agg #[.int .i64 kx, .int .i64 nx, .string nmx, .slice Ax lx cx, .slice Ax' lx' cx'])) := fun h0 => (HIn4.out h0).keep fun b _ hb => ⟨hb, five_at _ _ _ _ _ (by omega)⟩
      clear HS4' HU4 HB4 HIn4 x1 x2 x3 x4 x5 xf xl
      generalize (((((v4.setCell ⟨v3.heap.size, 1, none⟩ (.int .i64 kx)).setCell ⟨v3.heap.size, 2, none⟩ (.int .i64 nx)).setCell ⟨v3.heap.size, 3, none⟩ (.string nmx)).setCell ⟨v3.heap.size, 4, none⟩ (.slice Ax lx cx)).setCell ⟨v3.heap.size, 5, none⟩ (.slice Ax' lx' cx')) = v5 at HS5' HU5 HB5 HIn5 ⊢
      have K5 := hide (takes_calls rb s q4' d4 b4 v5 hs HS5'.out.le HS5'.out.rd ⟨#[41]⟩ (by decide))
      go_wp2_with (go_at_call 55; refine K5.out.mono ?_)
      intro e v6 h9
      obtain ⟨q5', d5, b5, rfl, hR6, hT6, hl6, hm6, hG6⟩ := h9
      have hl5 : v3.heap.size < v5.heap.size := (Array.getElem?_eq_some_iff.1 HB5.out).1
      have HI5' : Hid ((d5 = 0 ∧ ((((True ∧ SignAt s 40 pk q1) ∧ WordAt s cword q1 q2) ∧ WordAt s qn q2 q3') ∧ RT s D tx q3' q4') ∧ SignAt s 41 q4' q5') ∨ (d5 = 1 ∧ bDecl s D p b5)) := step_inv HI4'.out (goes_shut HS5'.out.le hG6) (fun F h => HBc.out _ (.inr ⟨(), q1, F.1.1.1.2, .inr ⟨(), q2, F.1.1.2, .inr ⟨qn, q3', F.1.2, .inr ⟨tx, q4', F.2, h⟩⟩⟩⟩))
      have HD45 : Hid (d5 = 0 → d4 = 0) := by
        rcases hG6 with ⟨g, g', _⟩ | ⟨g, _⟩ | ⟨g, _⟩
        · exact fun h => by omega
        · exact fun _ => g
        · exact fun _ => g
      have HS6' := hide (HS5'.out.touched hT6 hR6 hl6)
      have HU6 := hide (HU5.out.trans hT6)
      have HB6 : Hid (v6.heap[v3.heap.size]? = some (.cells #[.string qn, .int .i64 kx, .int .i64 nx, .string nmx, .slice Ax lx cx, .slice Ax' lx' cx'] 64 (0, 0))) := (hT6.at hl5 (by omega)).trans HB5.out
      have HIn6 : Hid (d4 = 0 → InTm v6 (fun b => wr.heap.size ≤ b) D tx (.agg #[.int .i64 kx, .int .i64 nx, .string nmx, .slice Ax lx cx, .slice Ax' lx' cx'])) := fun h0 => (HIn5.out h0).keep fun b hb hS => ⟨by omega, hT6.at hb (by omega)⟩
      have HRg6 : Hid (v6.rangeAt v3.heap.size 0 [.string qn, .int .i64 kx, .int .i64 nx, .string nmx, .slice Ax lx cx, .slice Ax' lx' cx']) := fun j v hv => by rw [Nat.zero_add]; exact cell_of HB6.out j (by simpa using hv)
      have HSz6 : Hid ((Tryz.prog.info? 64).map (·.size) = some 6) := by rw [hi]; simp [Hid, hz1']
      have hv := HB6.out
      have yl : v3.heap.size < v6.heap.size := (Array.getElem?_eq_some_iff.1 hv).1
      have hv2 := HS6'.out.var
      have e14 : v6.cell? ⟨w1.heap.size, 14, none⟩ = some (.slice Ac nc cc) := cell_of hv2 14 (HV14.out _ _ _)
      have ef : ∀ i, v6.frozen? ⟨w1.heap.size, i, none⟩ = false := fun i => frozen_of hv2 i
      have el : w1.heap.size < v6.heap.size := HS6'.out.lt
      have hz6 := HU6.out.size
      have hkz := HKp.out.size
      have HO6 := hide ((HRow.out.own.kept (row := some rb) HU6.out (.inr (fun e => by have := (HRow.out.own.lt rb e).1; omega))).alloc (.cells #[.string qn, .int .i64 kx, .int .i64 nx, .string nmx, .slice Ax lx cx, .slice Ax' lx' cx'] 64))
      clear hv hv2 hR6 hT6 hl6 hG6 K5 HS5' HU5 HB5 HIn5 HI4' HB6
      go_wp2_with (first | (refine wpList_load_mid rfl 64 _ rfl v3.heap.size 0 rfl [.string qn, .int .i64 kx, .int .i64 nx, .string nmx, .slice Ax lx cx, .slice Ax' lx' cx'] _ HRg6.out Tryz.underlying64 rfl HSz6.out ?_) | (at_builtin; refine wpList_append_placed _ rfl _ _ 44 rfl w15.heap.size 64 i0 _ 6 96 Tryz.underlying44 hi hz0 hz1' hz2 rfl (by decide) (.slice Ac nc cc) cs.length (flat xs) rfl HO6.out ⟨v6.heap.size, 0, none⟩ 1 1 [.string qn, .int .i64 kx, .int .i64 nx, .string nmx, .slice Ax lx cx, .slice Ax' lx' cx'] rfl rfl (six_new _ _ _ _ _ _ _ _) ?m2 (by decide) ?m3 ?m4 ?m5 ?_))
      case m2 => intro u hu; simp at hu; rcases hu with rfl | rfl | rfl | rfl | rfl | rfl <;> rfl
      case m3 => have := HFew.out; have := HPl.out; unfold maxLen; omega
      case m4 => have := HFew.out; have := HPl.out; omega
      case m5 => have := HFew.out; have := HPl.out; simp; omega
      intro v' v7 hown7 hgr7 hpl7
      have HR7 : Hid (d5 = 0 → GRow (CK D (cs ++ [(qn, tx)])) v7 64 6 0 w15.heap.size (cs ++ [(qn, tx)]).length v' (xs ++ [.agg #[.string qn, .int .i64 kx, .int .i64 nx, .string nmx, .slice Ax lx cx, .slice Ax' lx' cx']])) := fun h0 => cts_more (t := tx) (n0 := w15.heap.size) hkz (by omega) HRow.out HU6.out (HIn6.out (HD45.out h0)) hown7 hgr7 (by simpa using hpl7)
      obtain ⟨ao7, cA7, hu⟩ := own_row_slice hown7
      subst hu
      have HS7' := hide ((HS6'.out.alloc (.cells #[.string qn, .int .i64 kx, .int .i64 nx, .string nmx, .slice Ax lx cx, .slice Ax' lx' cx'] 64)).grown hgr7 (fun b e => by have := (HO6.out.lt b e).1; omega))
      have HK7 : Hid (Kept w1.heap.size w15 v7) := ((HKp.out.touched (by omega) HU6.out).grown (World.grownBy_alloc v6 (.cells #[.string qn, .int .i64 kx, .int .i64 nx, .string nmx, .slice Ax lx cx, .slice Ax' lx' cx'] 64) none) (fun b e => by cases e)).grown hgr7 (fun b e => (HO6.out.lt b e).1)
      have hv := HS7'.out.var
      have z14 : v7.cell? ⟨w1.heap.size, 14, none⟩ = some (.slice Ac nc cc) := cell_of hv 14 (HV14.out _ _ _)
      have zf : ∀ i, v7.frozen? ⟨w1.heap.size, i, none⟩ = false := fun i => frozen_of hv i
      have zl : w1.heap.size < v7.heap.size := HS7'.out.lt
      clear hv hown7 hgr7 hpl7 HO6 HS6' HU6 yl HRg6 e14 ef el HIn6 HD45
      go_wp2_with fail
      go_roundg (2 * s.size + 1 - (2 * q5' + (if d5 = 0 then 0 else 1)))
      case measure =>
        have hg := HG.out
        have hple := HPl.out
        rcases HI5'.out with ⟨h, hF, _⟩ | ⟨h, _⟩
        · have := hF.1.1.1.2.lt
          rw [if_pos h]
          omega
        · rw [if_neg (by omega)]
          omega
      case rel =>
        have hle7 := HS7'.out.le
        have hfew := HFew.out
        have hg := HG.out
        have hple := HPl.out
        refine ⟨cs ++ [(qn, tx)], xs ++ [.agg #[.string qn, .int .i64 kx, .int .i64 nx, .string nmx, .slice Ax lx cx, .slice Ax' lx' cx']], q5', d5, b5, ao7, cs.length + 1, cA7, by split <;> omega, HS7'.out.set 14 _ _ (HVs.out _ _ _ _ _ _), ⟨HK7.out.set 14 _, fun _ => HC0.out (by first | rfl | trivial)⟩, ?_⟩
        rcases HI5'.out with ⟨h, hF, hsg⟩ | ⟨h, hb⟩
        · have := hF.1.1.1.2.lt
          exact .inl ⟨h, HGF.out, HSq.out.snoc ⟨q1, q2, q3', q4', hF.1.1.1.2, hF.1.1.2, hF.1.2, hF.2, hsg⟩, fun h => absurd HK3.out h, by simp; omega, by simp, (HR7.out h).setBelow (CK.keeps _ _) hbase 14 _⟩
        · exact .inr ⟨h, hb⟩

  case rest =>
  as_aux_lemma =>
  obtain ⟨cs, pC, cC, aC, Ac, nc, cc, rfl, HS20v, HI20v⟩ := hcut
  rename World => w20
  have HS20 : Hid (RSt w rb s w1.heap.size #[.int .i64 (kd : Nat), .string nm, .slice Ap np cp, .int .i64 kt, .int .i64 nt, .string nmt, .slice At lt ct, .slice At' lt' ct', .int .i64 kv, .int .i64 nv, .string nmv, .slice Av lv cv, .slice Av' lv' cv', .int .i64 (ar : Nat), .slice Ac nc cc] pC cC aC w20) := by
    have h := HS20v.out
    rw [HVS.out] at h
    exact h
  have HI20 : Hid ((cC = 0 ∧ ((Begun s p kd nm ns p1 p2 p3 p5 ∧ OnlyIf (kd = 3) 0 (NumAt s) ar p5 pA ∧ RT s D ty pA p6 ∧ np = ns.length ∧ np ≤ cp) ∧ OnlyIf (kd = 2) zeroT (RT s D) vl p6 pV) ∧ SeqG (CtorAt s D) cs pV pC ∧ (kd = 3 → (tok s pC).t ≠ ⟨#[40]⟩) ∧ (kd ≠ 3 → cs = [] ∧ pC = pV) ∧ nc = cs.length ∧ NmsIn w20 (fun b => w1.heap.size < b) Ap ns ∧ InTm w20 (fun b => w1.heap.size < b) D ty (.agg #[.int .i64 kt, .int .i64 nt, .string nmt, .slice At lt ct, .slice At' lt' ct']) ∧ InTm w20 (fun b => w1.heap.size < b) D vl (.agg #[.int .i64 kv, .int .i64 nv, .string nmv, .slice Av lv cv, .slice Av' lv' cv']) ∧ CtsIn w20 (fun b => w1.heap.size < b) D Ac cs) ∨ (cC = 1 ∧ bDecl s D p aC)) := by
    have h := HI20v.out
    rw [HF.out, HMem.out] at h
    refine h.imp (fun h => ?_) id
    obtain ⟨h0, hF, h1, h2, h3, h4, ⟨m1, m2, m3⟩, h5⟩ := h
    exact ⟨h0, hF, h1, h2, h3, h4, m1, m2, m3, h5⟩
  clear HS16 HI16 HS20v HI20v HVS HF HMem HMk HBF HV0 HV14 HVs
  have K9 := hide (takes_calls rb s pC cC aC w20 hs HS20.out.le HS20.out.rd ⟨#[41]⟩ (by decide))
  go_wp2_with (go_at_call 55; refine K9.out.mono ?_)
  intro e w21 h9
  obtain ⟨pE, cE, aE, rfl, hR, hT, hl, -, hG⟩ := h9
  have HS21 := hide (HS20.out.touched hT hR hl)
  have HI21 : Hid ((cE = 0 ∧ ∃ d, DeclAt s D d p pE ∧ DeclV w21 (fun b => w.heap.size < b ∧ b ≠ w1.heap.size) D d (.agg #[.int .i64 (kd : Nat), .string nm, .slice Ap np cp, .int .i64 kt, .int .i64 nt, .string nmt, .slice At lt ct, .slice At' lt' ct', .int .i64 kv, .int .i64 nv, .string nmv, .slice Av lv cv, .slice Av' lv' cv', .int .i64 (ar : Nat), .slice Ac nc cc])) ∨ (cE = 1 ∧ bDecl s D p aE)) := by
    have hcw := HS20.out.hc
    have hsw := HS20.out.hs
    refine (step_inv HI20.out (goes_shut HS20.out.le hG) (fun F h => ?_)).imp (fun h => ⟨h.1, ?_⟩) id
    · obtain ⟨⟨⟨hB, hO, hrt, _, _⟩, hV⟩, hsq, hno, hnil, _⟩ := F
      refine hB.bad (.inr ⟨ar, pA, hO, .inr ⟨ty, p6, hrt, .inr ⟨vl, pV, hV, ?_⟩⟩⟩)
      by_cases hk : kd = 3
      · exact .inl ⟨hk, cs, pC, hsq, h.1, .inl ⟨fun p' hs1 => hno hk (sign_tok hs1), h.2⟩⟩
      · obtain ⟨e1, e2⟩ := hnil hk
        exact .inr ⟨[], pV, .inr ⟨hk, rfl, rfl⟩, by rw [← e2]; exact h⟩
    · obtain ⟨_, ⟨⟨⟨hB, hO, hrt, hnp, hcp⟩, hV⟩, hsq, hno, hnil, hnc, hN, hI, hI2, hC⟩, hsg⟩ := h
      have hk9 : ∀ b, b < w20.heap.size → w1.heap.size < b → (w.heap.size < b ∧ b ≠ w1.heap.size) ∧ w21.heap[b]? = w20.heap[b]? := fun b hb hS => ⟨by omega, hT.at hb (by omega)⟩
      refine ⟨⟨kd, nm, ns, ty, vl, ar, cs⟩, ⟨p1, p2, p3, p5, pA, p6, pV, pC, hB.o, hB.k, hB.w, hB.n, hB.ps, hO, hrt, hV, ?_, hsg⟩, Ap, cp, kt, nt, nmt, At, lt, ct, At', lt', ct', kv, nv, nmv, Av, lv, cv, Av', lv', cv', Ac, cc, by rw [hnp, hnc], hN.keep hk9, hI.keep hk9, hI2.keep hk9, hC.keep hk9, by rw [← hnp]; exact hcp⟩
      by_cases hk : kd = 3
      · exact .inl ⟨hk, ctorsAt_iff.2 hsq⟩
      · exact .inr ⟨hk, hnil hk⟩
  obtain ⟨l, hl', hRg, hTh, hSz, hOne, hRs, hE⟩ := decl_ret (D := D) (p := p) (vs := #[.int .i64 (kd : Nat), .string nm, .slice Ap np cp, .int .i64 kt, .int .i64 nt, .string nmt, .slice At lt ct, .slice At' lt' ct', .int .i64 kv, .int .i64 nv, .string nmv, .slice Av lv cv, .slice Av' lv' cv', .int .i64 (ar : Nat), .slice Ac nc cc]) rfl (all_oneCell_toArray (by simp only [List.mem_cons, List.not_mem_nil, or_false]; rintro u (rfl | rfl | rfl | rfl | rfl | rfl | rfl | rfl | rfl | rfl | rfl | rfl | rfl | rfl | rfl) <;> rfl)) HS21.out HI21.out
  have HRg := hide hRg
  have HTh := hide hTh
  have HSz2 := hide hSz
  have HOne := hide hOne
  have HRs := hide hRs
  have HE := hide hE
  clear hl' hRg hTh hSz hOne hRs hE hT hR hl hG K9 HS20 HI20 HS21 HI21
  go_wp2_with (first | (refine wpList_load_mid rfl 46 _ rfl w1.heap.size 0 rfl l _ HRg.out Tryz.underlying46 rfl HSz2.out ?_) | (refine wpList_store_mid rfl 46 _ _ rfl w.heap.size 0 l.toArray rfl rfl HTh.out HSz2.out HOne.out ?_))
  refine bodyPost_ret (v := .agg l.toArray) (by simp [results, Tryz.results34, asAddr, Act.put, HRs.out]) rfl ?_
  exact HE.out

end Go.Proofs.YtjlibnijecdgcaaGreatDoor
