/- The contract of PrintAll: the declarations' texts, each on a line. -/
import Derived.Test.YtkgkmlikpljbiaaDoorFPrint
import Derived.Test.YtkgkmlikpljbiaaDoorFRead

namespace Go.Proofs.YtkgkmlikpljbiaaDoor
open Go.RowKit

theorem setCells_below {B b : Nat} (hb : B ≤ b) : ∀ (vs : List Value) (o : Nat) {w W : World}, Below B w W → Below B w (W.setCells b o vs)
  | [], _, _, _, h => h
  | _ :: vs, o, _, _, h => setCells_below hb vs (o + 1) (h.setCell (p := ⟨b, o, none⟩) hb _)
theorem setCells_size : ∀ (vs : List Value) (b o : Nat) (w : World), (w.setCells b o vs).heap.size = w.heap.size
  | [], _, _, _ => rfl
  | _ :: vs, b, o, w => (setCells_size vs b (o + 1) _).trans (by simp [World.setCell])
/-- Where the walk stands: what is written, and nothing old has turned. -/
structure ASt (w : World) (acc : List UInt8) (W : World) : Prop where
  holds : Holds W w.heap.size acc
  old : Below w.heap.size w W
theorem ASt.later {w W W' : World} {acc : List UInt8} (h : ASt w acc W) (hb : Below W.heap.size W W') : ASt w acc W' := ⟨h.holds.later hb, h.old.trans (hb.mono h.old.size)⟩
theorem ASt.then {w W W' : World} {acc acc' : List UInt8} (h : ASt w acc W) (hh : Holds W' w.heap.size acc') (hw : Wrote w.heap.size W W') : ASt w acc' W' := ⟨hh, h.old.trans hw.low⟩

/-- A declaration's row, as it is loaded and stored. -/
theorem row15 {W : World} {D : Nat} {ds : List Dc} {A : Option Addr} (h : DsV W (fun _ => True) D ds A) (k : Nat) (hk : k < ds.length) :
    ∃ (g : Nat) (l : List Value), A = some ⟨g, 0, none⟩ ∧ g < W.heap.size ∧ W.rangeAt g (k * 15) l ∧ l.length = 15 ∧ (Tryd.prog.info? 45).map (·.size) = some l.length ∧ l.toArray.all (·.oneCell') = true ∧ DeclV W (fun _ => True) D ds[k] (.agg l.toArray) := by
  obtain ⟨g, a, e, _, hl, hz, hc, hv⟩ := h k hk
  have hlen : a.toList.length = 15 := by simpa using hz
  refine ⟨g, a.toList, e, hl, fun j v hv => ?_, hlen, by rw [hlen]; exact Tryd.size45, ?_, by simpa using hv⟩
  · have hj : j < 15 := by rw [← hlen]; exact (List.getElem?_eq_some_iff.1 hv).1
    rw [hc j hj]
    simpa using hv
  · obtain ⟨Ap, cp, kt, nt, nmt, At, lt, ct, At', lt', ct', kv, nv, nmv, Av, lv, cv, Av', lv', cv', Ac, cc, ea, -⟩ := hv
    injection ea with ea
    subst ea
    exact all_oneCell_toArray (by intro u hu; simp at hu; rcases hu with rfl | rfl | rfl | rfl | rfl | rfl | rfl | rfl | rfl | rfl | rfl | rfl | rfl | rfl | rfl <;> rfl)

theorem ftext_app (D : Nat) (xs ys : List Dc) : ftext D (xs ++ ys) = ftext D xs ++ ftext D ys := by unfold ftext; rw [List.flatMap_append]
theorem ftext_cons (D : Nat) (d : Dc) (ds : List Dc) : ftext D (d :: ds) = dtext D d ++ [10] ++ ftext D ds := by simp [ftext]

set_option maxRecDepth 100000 in
set_option maxHeartbeats 16000000 in
theorem printAll_calls (D : Nat) (ds : List Dc) (A : Option Addr) (c : Nat) (w : World) (ht : TabsP w) (hf : ∀ d ∈ ds, FitD D d) (hv : DsV w (fun _ => True) D ds A) (hl : (ftext D ds).length ≤ 400000000) (hn : ds.length ≤ 200000) :
    Calls Tryd.prog 5 #[.slice A ds.length c] w fun e w' => e = .returned (.string ⟨(ftext D ds).toArray⟩) ∧ Below w.heap.size w w' := by
  have HT := hide ht
  have HF := hide hf
  have HV := hide hv
  have HL := hide hl
  obtain ⟨n, hnn⟩ : ∃ n : Nat, n = ds.length := ⟨_, rfl⟩
  have HNn := hide hnn
  rw [← hnn] at hn ⊢
  have HA : Hid (ASt w [] (w.alloc (.cells #[.pointer none, .slice none 0 0] 37))) := ⟨Holds.new w, (Below.refl _ _).alloc (Nat.le_refl _) _⟩
  clear ht hf hv hl hnn
  go_enter Tryd.func5, Tryd.ntmps5
  go_wp2_with fail
  go_loopg [8] n (fun g i wr => ∃ k : Nat, k + g = n ∧ i = .int .i64 k ∧ Hid (ASt w (ftext D (ds.take k)) wr))
  case atStart => exact ⟨0, by omega, rfl, HA.out⟩
  case round =>
    clear HA
    obtain ⟨k, hkg, rfl, HR⟩ := hrel
    by_cases hk : k < n
    · have hkd : k < ds.length := by rw [← HNn.out]; exact hk
      have hV : DsV wr (fun _ => True) D ds A := HV.out.keep fun b hb _ => ⟨trivial, HR.out.old.block b hb⟩
      obtain ⟨g, l, rfl, hgl, hrg, hll, hsz, hone, hdv⟩ := row15 hV k hkd
      have q : decide ((k : Int) < (n : Int)) = true := by simp; omega
      have HRg := hide hrg
      have HSz := hide hsz
      have HOne := hide hone
      have hth : (wr.alloc zdc).there wr.heap.size 0 l.toArray.size := by
        have := there_of (heap_alloc_new wr zdc)
        simpa [hll] using this
      have HTh := hide hth
      have hB1 : Below wr.heap.size wr ((wr.alloc zdc).setCells wr.heap.size 0 l) := setCells_below (Nat.le_refl _) _ _ ((Below.refl _ _).alloc (Nat.le_refl _) _)
      have HRg2 : Hid (((wr.alloc zdc).setCells wr.heap.size 0 l).rangeAt wr.heap.size 0 l) := World.rangeAt_setCells_same _ _ _ _ (by have := HTh.out; simpa using this)
      have H1 := hide (HR.out.later hB1)
      have KP := hide (print_calls D ds[k] (.agg l.toArray) ((wr.alloc zdc).setCells wr.heap.size 0 l) (HT.out.later H1.out.old) (HF.out _ (List.getElem_mem hkd)) (hdv.keep fun b hb _ => ⟨trivial, hB1.block b hb⟩))
      have hz1 : ((wr.alloc zdc).setCells wr.heap.size 0 l).heap.size = wr.heap.size + 1 := by rw [setCells_size]; simp
      have HZ1 := hide hz1
      clear hrg hsz hone hth hdv hV hB1 hz1
      go_wp2_with (first | (refine wpList_load_mid rfl 45 _ rfl g (k * 15) rfl l _ HRg.out Tryd.underlying45 rfl HSz.out ?_) | (refine wpList_store_mid rfl 45 _ _ rfl wr.heap.size 0 l.toArray rfl rfl HTh.out HSz.out HOne.out ?_) | (refine wpList_load_mid rfl 45 _ rfl wr.heap.size 0 rfl l _ HRg2.out Tryd.underlying45 rfl HSz.out ?_) | (go_at_call 9; refine KP.out.mono ?_))
      intro e w2 h9
      first | (subst h9; intro hb2) | (obtain ⟨rfl, hb2⟩ := h9)
      have hfk : (ftext D (ds.take k)).length + (dtext D ds[k]).length + 1 ≤ 400000000 := by
        have h1 := HL.out
        have e : ftext D ds = ftext D (ds.take k) ++ (dtext D ds[k] ++ [10]) ++ ftext D (ds.drop (k + 1)) := by
          have e2 : ds = ds.take k ++ (ds[k] :: ds.drop (k + 1)) := by rw [← List.drop_eq_getElem_cons hkd, List.take_append_drop]
          conv => lhs; rw [e2]
          rw [ftext_app, ftext_cons]
          simp only [List.append_assoc]
        rw [e] at h1
        simp only [List.length_append, List.length_cons, List.length_nil] at h1
        omega
      have HNk : Hid (ftext D (ds.take (k + 1)) = ftext D (ds.take k) ++ dtext D ds[k] ++ [10]) := by
        rw [List.take_succ_eq_append_getElem hkd, ftext_app, ftext_cons, List.append_assoc]
        exact hide (by simp [ftext])
      have H2 := hide (H1.out.later hb2)
      generalize dtext D ds[k] = X at *
      generalize ftext D (ds.take k) = acc at *
      have hl2 := H2.out.holds.lt
      have KS := hide (writeString_calls w.heap.size acc ⟨X.toArray⟩ w2 H2.out.holds (by omega) (by show X.toArray.size ≤ _; simp; omega) (Nat.le_of_lt hl2))
      clear hb2 KP H1 HRg HRg2 HSz HOne HTh HZ1
      go_wp2_with (go_at_call 8; refine KS.out.mono ?_)
      rintro e w3 ⟨rfl, hh, hw⟩
      have H3 := hide (H2.out.then hh hw)
      have hl3 := H3.out.holds.lt
      have KB := hide (writeByte_calls w.heap.size _ 10 w3 H3.out.holds (by simp; omega) (Nat.le_of_lt hl3))
      clear hh hw KS H2 hl2
      go_wp2_with (go_at_call 10; refine KB.out.mono ?_)
      rintro e w4 ⟨rfl, hh, hw⟩
      have H4 := hide (H3.out.then hh hw)
      clear hh hw KB H3 hl3
      go_wp2_with fail
      go_roundg (n - (k + 1))
      case measure => omega
      case rel => exact ⟨k + 1, by omega, by go_num, by rw [HNk.out]; exact H4.out⟩
    · have q : decide ((k : Int) < (n : Int)) = false := by simp; omega
      have hke : k = ds.length := by rw [← HNn.out]; omega
      have HE : Hid (ASt w (ftext D ds) wr) := by have := HR.out; rw [hke, List.take_length] at this; exact this
      have hlw := HE.out.holds.lt
      have KS := hide (string_calls w.heap.size _ wr HE.out.holds)
      have HO := hide HE.out.old
      clear hke HR
      go_wp2_with (go_at_call 11; refine KS.out.mono ?_)
      intro e w5 h9
      first | (subst h9; intro hb5) | (obtain ⟨rfl, hb5⟩ := h9)
      have HB5 := hide (HO.out.trans hb5)
      clear hb5 KS HE
      go_wp2_with fail
      go_ret
      exact ⟨rfl, HB5.out⟩

end Go.Proofs.YtkgkmlikpljbiaaDoor

/- The walk of FileReads: what is printed of a file is parsed as the same. -/
namespace Go.Proofs.YtkgkmlikpljbiaaDoor
open Go.RowKit

theorem FileIs.fit {s : ByteArray} {D : Nat} {ds : List Dc} (h : FileIs s D ds) (hD : 200000 < D) : (ftext D ds).length ≤ 400000000 ∧ ds.length ≤ 200000 ∧ (∀ d ∈ ds, FitD D d) := by
  obtain ⟨hs, p', h1, h2, h3⟩ := h
  obtain ⟨a, b, c⟩ := decls_len hs hD h1
  have hp : p' ≤ s.size := by rw [← h2]; exact runTo_ge _ _ _
  exact ⟨by omega, by omega, c⟩
/-- A text is declarations in one way. -/
theorem FileIs.same {s : ByteArray} {D : Nat} {ds : List Dc} (h : FileIs s D ds) {es : List Dc} {p : Nat} (h1 : DeclsAt s D es 0 p) (h2 : runTo blankB s p = s.size) : ds = es := by
  obtain ⟨_, p', h3, h4, _⟩ := h
  exact (SeqG.same decl_det (declsAt_iff.1 h3) (declsAt_iff.1 h1) (fun _ _ h => end_no_decl h4 h) (fun _ _ h => end_no_decl h2 h)).1
/-- What is printed of declarations that were read is they. -/
theorem printed_is {s : ByteArray} {D : Nat} {ds : List Dc} (h : FileIs s D ds) (hD : 200000 < D) : ∃ p', DeclsAt ⟨(ftext D ds).toArray⟩ D ds 0 p' ∧ runTo blankB ⟨(ftext D ds).toArray⟩ p' = (⟨(ftext D ds).toArray⟩ : ByteArray).size := by
  refine decls_text ds 0 (fun d hd => ((h.fit hD).2.2 d hd).good) ?_ ?_
  · refine ⟨?_, fun i hi => ?_⟩
    · show 0 + (ftext D ds).length ≤ (ftext D ds).toArray.size
      simp
    · rw [Nat.zero_add, at_data _ _ (by show i < (ftext D ds).toArray.size; simpa using hi)]
  · show 0 + (ftext D ds).length = (ftext D ds).toArray.size
    simp

/-- The declaration of the first closed fact. -/
def d0 : Dc := ⟨1, ⟨#[65]⟩, [⟨#[117]⟩], .node 1 0 ⟨#[]⟩ [.param ⟨#[117]⟩] [], zeroT, 0, []⟩
abbrev s0 : ByteArray := ⟨#[40, 97, 120, 105, 111, 109, 32, 65, 32, 40, 117, 41, 32, 40, 115, 111, 114, 116, 32, 117, 41, 41]⟩
theorem d0_text (n : Nat) : dtext (n + 1) d0 = [40, 97, 120, 105, 111, 109, 32, 65, 32, 40, 117, 41, 32, 40, 115, 111, 114, 116, 32, 117, 41, 41] := by rfl
theorem d0_good (n : Nat) : GoodD (n + 1) d0 := by
  have hA : Nm ⟨#[65]⟩ := by refine ⟨by decide, by decide, by decide, by decide⟩
  have hu : Nm ⟨#[117]⟩ := by refine ⟨by decide, by decide, by decide, by decide⟩
  refine ⟨by decide, by decide, hA, fun q hq => ?_, by decide, fun _ => rfl, ?_, fun h => absurd h (by decide), fun _ => rfl, fun c hc => absurd hc (by simp [d0]), fun _ => rfl⟩
  · have : q = ⟨#[117]⟩ := by simpa [d0] using hq
    rw [this]; exact hu
  · refine .inr ⟨by decide, by decide, rfl, fun h => absurd h (by decide), fun _ => rfl, fun _ => ⟨_, rfl⟩, fun h => absurd rfl h, fun l hl q hq => ?_, rfl, fun x hx => absurd hx (by simp [d0, Tm.ts])⟩
    have : l = .param ⟨#[117]⟩ := by simpa [d0, Tm.ls] using hl
    rw [this] at hq
    have : q = ⟨#[117]⟩ := by simpa [Lv.has] using hq.symm
    rw [this]; exact hu
theorem first_is (n : Nat) : ∃ p, DeclsAt s0 (n + 1) [d0] 0 p ∧ runTo blankB s0 p = s0.size := by
  have hH : Has s0 0 (dtext (n + 1) d0) := by
    rw [d0_text]
    refine ⟨by decide, by decide⟩
  have := decl_text (d0_good n) hH
  refine ⟨0 + (dtext (n + 1) d0).length, ⟨_, this, rfl⟩, ?_⟩
  rw [d0_text]
  decide

/-- A script as it came in: each step's first text. -/
def IsOps (w : World) (a : Option Addr) (len : Nat) : Prop := len ≤ maxLen ∧ ∀ i, i < len → ∃ (b off : Nat) (S : ByteArray), a = some ⟨b, off, none⟩ ∧ S.size ≤ maxLen ∧ w.cell? ⟨b, off + i * 6 + 1, none⟩ = some (.string S)

theorem neq_same (X : ByteArray) : (X.toList == X.toList) = true := sameStr_pos rfl

set_option maxRecDepth 100000 in
set_option maxHeartbeats 16000000 in
theorem reads_walk (ad : Option Addr) (len cap : Nat) (w : World) (h : IsOps w ad len) (ht : TabsP w) :
    Calls Tryd.prog 3 #[.slice ad len cap] w fun e w' => e = .returned (.bool true) ∧ Below w.heap.size w w' := by
  obtain ⟨hm, hc⟩ := h
  unfold maxLen at hm
  have HC := hide hc
  have HTb := hide ht
  obtain ⟨D, hD⟩ : ∃ D : Nat, D = 200000 + 1 := ⟨_, rfl⟩
  have hD2 : 200000 < D := by omega
  have K0 := hide (fparse_calls s0 D w (by unfold maxLen; decide) hD2 ht.t)
  have HF0 : Hid (∃ p, DeclsAt s0 D [d0] 0 p ∧ runTo blankB s0 p = s0.size) := by rw [hD]; exact first_is 200000
  clear hc ht hD
  have HD := hide hD2
  clear hD2
  go_enter Tryd.func3, Tryd.ntmps3
  go_wp2_with (go_at_call 4; refine K0.out.mono ?_)
  intro e w0 h9
  rcases h9 with ⟨ds, A, c, hfi, rfl, -, hb0⟩ | ⟨hno, -⟩
  rotate_left
  · obtain ⟨p, h1, h2⟩ := HF0.out
    exact absurd h2 (hno _ _ (by decide) h1)
  obtain rfl : ds = [d0] := by obtain ⟨p, h1, h2⟩ := HF0.out; exact hfi.same h1 h2
  have HB0 := hide hb0
  clear hb0 hfi K0 HF0
  simp only [List.length_cons, List.length_nil, Nat.zero_add]
  go_wp2_with fail
  go_loopg [5] (len) (fun g i wr => ∃ k : Nat, k + g = len ∧ i = .int .i64 k ∧ Below w.heap.size w wr)
  case atStart => exact ⟨0, by omega, rfl, HB0.out⟩
  case round =>
    obtain ⟨k, hkg, rfl, hbel⟩ := hrel
    have HB := hide hbel
    clear hbel HB0
    by_cases hlt : k < len
    · by_cases hmax : (k : Int) < 1152921504606846976
      · obtain ⟨bk, off, S, rfl, hS, c1⟩ := HC.out k hlt
        have d1 := cell_later HB.out c1
        have hbl : bk < wr.heap.size := World.block_lt_of_cell? _ _ d1
        have K1 := hide (fparse_calls S D wr hS HD.out (HTb.out.later HB.out).t)
        clear c1
        go_wp2_with (go_at_call 4; refine K1.out.mono ?_)
        intro e w1 h9
        rcases h9 with ⟨ds, A1, c1, hfi, rfl, hV, hb1⟩ | ⟨hno, N, rfl, hb1⟩
        rotate_left
        · have HB1 := hide (HB.out.trans (hb1.mono HB.out.size))
          clear hb1 hno K1
          go_wp2_with fail
          go_roundg (len - (k + 1))
          case measure => omega
          case rel => exact ⟨k + 1, by omega, by go_num, HB1.out⟩
        have HB1 := hide (HB.out.trans (hb1.mono HB.out.size))
        obtain ⟨f1, f2, f3⟩ := hfi.fit HD.out
        obtain ⟨X, hX⟩ : ∃ X : ByteArray, X = ⟨(ftext D ds).toArray⟩ := ⟨_, rfl⟩
        obtain ⟨m, hm2⟩ : ∃ m : Nat, m = ds.length := ⟨_, rfl⟩
        have hXs : X.size ≤ 400000000 := by rw [hX]; show (ftext D ds).toArray.size ≤ _; simpa using f1
        have KP : Hid (∀ (W : World) (A : Option Addr) (c : Nat), Below w.heap.size w W → DsV W (fun _ => True) D ds A → Calls Tryd.prog 5 #[.slice A m c] W fun e w' => e = .returned (.string X) ∧ Below W.heap.size W w') := fun W A c hW hV => by
          rw [hm2, hX]
          exact printAll_calls D ds A c W (HTb.out.later hW) f3 hV f1 f2
        have HPr : Hid (∃ p', DeclsAt X D ds 0 p' ∧ runTo blankB X p' = X.size) := by rw [hX]; exact printed_is hfi HD.out
        have K2 := hide (KP.out w1 A1 c1 HB1.out (hV.keep fun b _ _ => ⟨trivial, rfl⟩))
        have HM := hide hm2
        rw [← hm2]
        clear hb1 K1 hV hfi f1 f2 f3 hX hm2 d1 hbl
        go_wp2_with (go_at_call 5; refine K2.out.mono ?_)
        intro e w2 h9
        first | (subst h9; intro hb2) | (obtain ⟨rfl, hb2⟩ := h9)
        have HB2 := hide (HB1.out.trans (hb2.mono HB1.out.size))
        clear hb2 K2 HB1
        by_cases hx : X.size ≤ 200000
        rotate_left
        · have q : decide ((200000 : Int) < (X.size : Int)) = true := by simp; omega
          go_wp2_with fail
          go_roundg (len - (k + 1))
          case measure => omega
          case rel => exact ⟨k + 1, by omega, by go_num, HB2.out⟩
        have q : decide ((200000 : Int) < (X.size : Int)) = false := by simp; omega
        have K3 := hide (fparse_calls X D w2 (by unfold maxLen; omega) HD.out (HTb.out.later HB2.out).t)
        go_wp2_with (go_at_call 4; refine K3.out.mono ?_)
        intro e w3 h9
        rcases h9 with ⟨es, A3, c3, hfi, rfl, hV, hb3⟩ | ⟨hno, -⟩
        rotate_left
        · obtain ⟨p, h1, h2⟩ := HPr.out
          exact absurd h2 (hno _ _ hx h1)
        obtain rfl : es = ds := by obtain ⟨p, h1, h2⟩ := HPr.out; exact hfi.same h1 h2
        have HB3 := hide (HB2.out.trans (hb3.mono HB2.out.size))
        have K4 := hide (KP.out w3 A3 c3 HB3.out (hV.keep fun b _ _ => ⟨trivial, rfl⟩))
        rw [← HM.out]
        clear hb3 hV hfi K3 HB2
        go_wp2_with (go_at_call 5; refine K4.out.mono ?_)
        intro e w4 h9
        first | (subst h9; intro hb4) | (obtain ⟨rfl, hb4⟩ := h9)
        have HB4 := hide (HB3.out.trans (hb4.mono HB3.out.size))
        clear hb4 K4 HB3
        have hsame := neq_same X
        go_wp2_with fail
        go_roundg (len - (k + 1))
        case measure => omega
        case rel => exact ⟨k + 1, by omega, by go_num, HB4.out⟩
      · have q : decide ((k : Int) < 1152921504606846976) = false := by simp; omega
        go_wp2_with fail
        go_ret
        exact ⟨rfl, HB.out⟩
    · go_wp2_with fail
      go_ret
      exact ⟨rfl, HB.out⟩

end Go.Proofs.YtkgkmlikpljbiaaDoor
