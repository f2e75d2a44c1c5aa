/- The contract of PrintAll: the declarations' texts, each on a line. -/
import Derived.Test.YtjlibnijecdgcaaGreatDoorFPrint
import Derived.Test.YtjlibnijecdgcaaGreatDoorFRead
import Derived.Test.YtjlibnijecdgcaaGreatDoorDDecl

namespace Go.Proofs.YtjlibnijecdgcaaGreatDoor
open Go.RowKit

theorem setCells_below {B b : Nat} (hb : B ≤ b) : ∀ (vs : List Value) (o : Nat) {w W : World}, Below B w W → Below B w (W.setCells b o vs)
  | [], _, _, _, h => h
  | _ :: vs, o, _, _, h => setCells_below hb vs (o + 1) (h.setCell (p := ⟨b, o, none⟩) hb _)
theorem setCells_size : ∀ (vs : List Value) (b o : Nat) (w : World), (w.setCells b o vs).heap.size = w.heap.size
  | [], _, _, _ => rfl
  | _ :: vs, b, o, w => (setCells_size vs b (o + 1) _).trans (by simp [World.setCell])
/-- Where the walk stands: what is written, and nothing old has turned. -/
structure ASt (w : World) (acc : List UInt8) (W : World) : Prop where
  holds : Holds W w.heap.size acc
  old : Below w.heap.size w W
theorem ASt.later {w W W' : World} {acc : List UInt8} (h : ASt w acc W) (hb : Below W.heap.size W W') : ASt w acc W' := ⟨h.holds.later hb, h.old.trans (hb.mono h.old.size)⟩
theorem ASt.then {w W W' : World} {acc acc' : List UInt8} (h : ASt w acc W) (hh : Holds W' w.heap.size acc') (hw : Wrote w.heap.size W W') : ASt w acc' W' := ⟨hh, h.old.trans hw.low⟩

/-- A declaration's row, as it is loaded and stored. -/
theorem row15 {W : World} {D : Nat} {ds : List Dc} {A : Option Addr} (h : DsV W (fun _ => True) D ds A) (k : Nat) (hk : k < ds.length) :
    ∃ (g : Nat) (l : List Value), A = some ⟨g, 0, none⟩ ∧ g < W.heap.size ∧ W.rangeAt g (k * 15) l ∧ l.length = 15 ∧ (Tryz.prog.info? 46).map (·.size) = some l.length ∧ l.toArray.all (·.oneCell') = true ∧ DeclV W (fun _ => True) D ds[k] (.agg l.toArray) := by
  obtain ⟨g, a, e, _, hl, hz, hc, hv⟩ := h k hk
  have hlen : a.toList.length = 15 := by simpa using hz
  refine ⟨g, a.toList, e, hl, fun j v hv => ?_, hlen, by rw [hlen]; exact Tryz.size45, ?_, by simpa using hv⟩
  · have hj : j < 15 := by rw [← hlen]; exact (List.getElem?_eq_some_iff.1 hv).1
    rw [hc j hj]
    simpa using hv
  · obtain ⟨Ap, cp, kt, nt, nmt, At, lt, ct, At', lt', ct', kv, nv, nmv, Av, lv, cv, Av', lv', cv', Ac, cc, ea, -⟩ := hv
    injection ea with ea
    subst ea
    exact all_oneCell_toArray (by intro u hu; simp at hu; rcases hu with rfl | rfl | rfl | rfl | rfl | rfl | rfl | rfl | rfl | rfl | rfl | rfl | rfl | rfl | rfl <;> rfl)

theorem ftext_app (D : Nat) (xs ys : List Dc) : ftext D (xs ++ ys) = ftext D xs ++ ftext D ys := by unfold ftext; rw [List.flatMap_append]
theorem ftext_cons (D : Nat) (d : Dc) (ds : List Dc) : ftext D (d :: ds) = dtext D d ++ [10] ++ ftext D ds := by simp [ftext]

set_option maxRecDepth 100000 in
set_option maxHeartbeats 16000000 in
theorem printAll_calls (D : Nat) (ds : List Dc) (A : Option Addr) (c : Nat) (w : World) (ht : TabsP w) (hf : ∀ d ∈ ds, FitD D d) (hv : DsV w (fun _ => True) D ds A) (hl : (ftext D ds).length ≤ 400000000) (hn : ds.length ≤ 200000) :
    Calls Tryz.prog 8 #[.slice A ds.length c] w fun e w' => e = .returned (.string ⟨(ftext D ds).toArray⟩) ∧ Below w.heap.size w w' := by
  have HT := hide ht
  have HF := hide hf
  have HV := hide hv
  have HL := hide hl
  obtain ⟨n, hnn⟩ : ∃ n : Nat, n = ds.length := ⟨_, rfl⟩
  have HNn := hide hnn
  rw [← hnn] at hn ⊢
  have HA : Hid (ASt w [] (w.alloc (.cells #[.pointer none, .slice none 0 0] 55))) := ⟨Holds.new w, (Below.refl _ _).alloc (Nat.le_refl _) _⟩
  clear ht hf hv hl hnn
  go_enter Tryz.func8, Tryz.ntmps8
  go_wp2_with fail
  go_loopg [8] n (fun g i wr => ∃ k : Nat, k + g = n ∧ i = .int .i64 k ∧ Hid (ASt w (ftext D (ds.take k)) wr))
  case atStart => exact ⟨0, by omega, rfl, HA.out⟩
  case round =>
    clear HA
    obtain ⟨k, hkg, rfl, HR⟩ := hrel
    by_cases hk : k < n
    · have hkd : k < ds.length := by rw [← HNn.out]; exact hk
      have hV : DsV wr (fun _ => True) D ds A := HV.out.keep fun b hb _ => ⟨trivial, HR.out.old.block b hb⟩
      obtain ⟨g, l, rfl, hgl, hrg, hll, hsz, hone, hdv⟩ := row15 hV k hkd
      have q : decide ((k : Int) < (n : Int)) = true := by simp; omega
      have HRg := hide hrg
      have HSz := hide hsz
      have HOne := hide hone
      have hth : (wr.alloc zdc).there wr.heap.size 0 l.toArray.size := by
        have := there_of (heap_alloc_new wr zdc)
        simpa [hll] using this
      have HTh := hide hth
      have hB1 : Below wr.heap.size wr ((wr.alloc zdc).setCells wr.heap.size 0 l) := setCells_below (Nat.le_refl _) _ _ ((Below.refl _ _).alloc (Nat.le_refl _) _)
      have HRg2 : Hid (((wr.alloc zdc).setCells wr.heap.size 0 l).rangeAt wr.heap.size 0 l) := World.rangeAt_setCells_same _ _ _ _ (by have := HTh.out; simpa using this)
      have H1 := hide (HR.out.later hB1)
      have KP := hide (print_calls D ds[k] (.agg l.toArray) ((wr.alloc zdc).setCells wr.heap.size 0 l) (HT.out.later H1.out.old) (HF.out _ (List.getElem_mem hkd)) (hdv.keep fun b hb _ => ⟨trivial, hB1.block b hb⟩))
      have hz1 : ((wr.alloc zdc).setCells wr.heap.size 0 l).heap.size = wr.heap.size + 1 := by rw [setCells_size]; simp
      have HZ1 := hide hz1
      clear hrg hsz hone hth hdv hV hB1 hz1
      go_wp2_with (first | (refine wpList_load_mid rfl 46 _ rfl g (k * 15) rfl l _ HRg.out Tryz.underlying46 rfl HSz.out ?_) | (refine wpList_store_mid rfl 46 _ _ rfl wr.heap.size 0 l.toArray rfl rfl HTh.out HSz.out HOne.out ?_) | (refine wpList_load_mid rfl 46 _ rfl wr.heap.size 0 rfl l _ HRg2.out Tryz.underlying46 rfl HSz.out ?_) | (go_at_call 10; refine KP.out.mono ?_))
      intro e w2 h9
      first | (subst h9; intro hb2) | (obtain ⟨rfl, hb2⟩ := h9)
      have hfk : (ftext D (ds.take k)).length + (dtext D ds[k]).length + 1 ≤ 400000000 := by
        have h1 := HL.out
        have e : ftext D ds = ftext D (ds.take k) ++ (dtext D ds[k] ++ [10]) ++ ftext D (ds.drop (k + 1)) := by
          have e2 : ds = ds.take k ++ (ds[k] :: ds.drop (k + 1)) := by rw [← List.drop_eq_getElem_cons hkd, List.take_append_drop]
          conv => lhs; rw [e2]
          rw [ftext_app, ftext_cons]
          simp only [List.append_assoc]
        rw [e] at h1
        simp only [List.length_append, List.length_cons, List.length_nil] at h1
        omega
      have HNk : Hid (ftext D (ds.take (k + 1)) = ftext D (ds.take k) ++ dtext D ds[k] ++ [10]) := by
        rw [List.take_succ_eq_append_getElem hkd, ftext_app, ftext_cons, List.append_assoc]
        exact hide (by simp [ftext])
      have H2 := hide (H1.out.later hb2)
      generalize dtext D ds[k] = X at *
      generalize ftext D (ds.take k) = acc at *
      have hl2 := H2.out.holds.lt
      have KS := hide (writeString_calls w.heap.size acc ⟨X.toArray⟩ w2 H2.out.holds (by omega) (by show X.toArray.size ≤ _; simp; omega) (Nat.le_of_lt hl2))
      clear hb2 KP H1 HRg HRg2 HSz HOne HTh HZ1
      go_wp2_with (go_at_call 17; refine KS.out.mono ?_)
      rintro e w3 ⟨rfl, hh, hw⟩
      have H3 := hide (H2.out.then hh hw)
      have hl3 := H3.out.holds.lt
      have KB := hide (writeByte_calls w.heap.size _ 10 w3 H3.out.holds (by simp; omega) (Nat.le_of_lt hl3))
      clear hh hw KS H2 hl2
      go_wp2_with (go_at_call 18; refine KB.out.mono ?_)
      rintro e w4 ⟨rfl, hh, hw⟩
      have H4 := hide (H3.out.then hh hw)
      clear hh hw KB H3 hl3
      go_wp2_with fail
      go_roundg (n - (k + 1))
      case measure => omega
      case rel => exact ⟨k + 1, by omega, by go_num, by rw [HNk.out]; exact H4.out⟩
    · have q : decide ((k : Int) < (n : Int)) = false := by simp; omega
      have hke : k = ds.length := by rw [← HNn.out]; omega
      have HE : Hid (ASt w (ftext D ds) wr) := by have := HR.out; rw [hke, List.take_length] at this; exact this
      have hlw := HE.out.holds.lt
      have KS := hide (string_calls w.heap.size _ wr HE.out.holds)
      have HO := hide HE.out.old
      clear hke HR
      go_wp2_with (go_at_call 19; refine KS.out.mono ?_)
      intro e w5 h9
      first | (subst h9; intro hb5) | (obtain ⟨rfl, hb5⟩ := h9)
      have HB5 := hide (HO.out.trans hb5)
      clear hb5 KS HE
      go_wp2_with fail
      go_ret
      exact ⟨rfl, HB5.out⟩

end Go.Proofs.YtjlibnijecdgcaaGreatDoor

/- The contracts of the document's ParseAny and ParseFile. -/
namespace Go.Proofs.YtjlibnijecdgcaaGreatDoor
open Go.RowKit

theorem list15 {l : List Value} (h : l.length = 15) : ∃ x0 x1 x2 x3 x4 x5 x6 x7 x8 x9 x10 x11 x12 x13 x14, l = [x0, x1, x2, x3, x4, x5, x6, x7, x8, x9, x10, x11, x12, x13, x14] := by
  match l, h with
  | [x0, x1, x2, x3, x4, x5, x6, x7, x8, x9, x10, x11, x12, x13, x14], _ => exact ⟨_, _, _, _, _, _, _, _, _, _, _, _, _, _, _, rfl⟩
theorem fold15 {l : List Value} (h : l.length = 15) : List.foldl (fun (cs : Array Value) (x : Value × Nat) => cs.setIfInBounds x.snd x.fst) #[.int .i64 0, .string ⟨#[]⟩, .slice none 0 0, .int .i64 0, .int .i64 0, .string ⟨#[]⟩, .slice none 0 0, .slice none 0 0, .int .i64 0, .int .i64 0, .string ⟨#[]⟩, .slice none 0 0, .slice none 0 0, .int .i64 0, .slice none 0 0] l.zipIdx = l.toArray := by
  obtain ⟨x0, x1, x2, x3, x4, x5, x6, x7, x8, x9, x10, x11, x12, x13, x14, rfl⟩ := list15 h
  simp
theorem cells_new (w : World) (l : List Value) (T : TypeId) : ∀ j u, l[j]? = some u → (w.alloc (.cells l.toArray T)).cell? ((⟨w.heap.size, 0, none⟩ : Addr).add j) = some u := by
  intro j u h
  rw [Addr.add_lit, Nat.zero_add]
  have hb := heap_alloc_new w (.cells l.toArray T)
  unfold World.cell?
  rw [hb]
  simpa using h
/-- One declaration more. -/
theorem ds_more {wr w6 w7 : World} {rb D n0 nc : Nat} {ds : List Dc} {xs : List Value} {Ac : Option Addr} {cc : Nat} {d : Dc} {l : List Value} {v' : Value} (hl15 : l.length = 15) (hn0 : n0 ≤ wr.heap.size) (hrb : rb < n0)
    (hrow : GRow (DK D ds) wr 46 15 0 n0 ds.length (.slice Ac nc cc) xs) (hB : Touched wr rb w6) (hin : DeclV w6 (fun b => wr.heap.size ≤ b) D d (.agg l.toArray))
    (hown : w7.ownsRow n0 46 15 v' (ds.length + 1) (flat xs ++ l)) (hgr : (w6.alloc (.cells l.toArray 46)).grownBy w7 (Value.slice Ac nc cc).ownBlock)
    (hpl : v'.ownBlock = (Value.slice Ac nc cc).ownBlock ∨ v'.ownBlock = some (w6.alloc (.cells l.toArray 46)).heap.size) :
    GRow (DK D (ds ++ [d])) w7 46 15 0 n0 (ds ++ [d]).length v' (xs ++ [.agg l.toArray]) := by
  have h1 : GRow (DK D (ds ++ [d])) w6 46 15 0 n0 ds.length (.slice Ac nc cc) xs := (hrow.touched (DK.keeps _ _) hB hrb).imp fun S j v hj ⟨hj', hv⟩ => ⟨by simp; omega, by rw [List.getElem_append_left hj']; exact hv⟩
  have hl : (ds ++ [d]).length = ds.length + 1 := by simp
  rw [hl]
  refine GRow.push (DK.keeps _ _) h1 (m := wr.heap.size) (Nat.zero_le _) hn0 (fun g e => (hrow.own.lt g e).2) (Below.refl _ _) ⟨by simp, ?_⟩ (by simpa using hl15) (by simpa using hown) hgr hpl
  have e1 : (ds ++ [d])[ds.length]'(by simp) = d := by rw [List.getElem_append_right (Nat.le_refl _)]; simp
  rw [e1]
  exact hin.keep fun b _ hb => ⟨.inr hb, rfl⟩

/-- What the document's parsing comes to. -/
def DAnswer (w : World) (s : ByteArray) (D : Nat) (e : Ending) (w' : World) : Prop :=
  (∃ (ds : List Dc) (A : Option Addr) (c : Nat), FileIs s D ds ∧ e = .returned (.tuple #[.slice A ds.length c, .agg #[.int .i64 0, .int .i64 0]]) ∧ DsV w' (fun b => w.heap.size ≤ b) D ds A ∧ Below w.heap.size w w') ∨
  (∃ code a : Nat, FileBad s D code a ∧ e = .returned (.tuple #[.slice none 0 0, .agg #[.int .i64 (code : Nat), .int .i64 (a : Nat)]]) ∧ Below w.heap.size w w')

/-- While the document reads a file. -/
structure DsSt (w : World) (s : ByteArray) (pk code a : Nat) (W : World) : Prop where
  res : W.heap[w.heap.size]? = some (.cells #[.int .i64 0, .int .i64 0] 33 (0, 0))
  rd : RdAt W (w.heap.size + 1) s pk code a
  old : Below w.heap.size w W
  le : pk ≤ s.size
theorem DsSt.touched {w : World} {s : ByteArray} {pk code a : Nat} {W W' : World} {pk' c' a' : Nat} (h : DsSt w s pk code a W) (ht : Touched W (w.heap.size + 1) W') (hR : RdAt W' (w.heap.size + 1) s pk' c' a') (hp : pk' ≤ s.size) : DsSt w s pk' c' a' W' :=
  ⟨(ht.at (Array.getElem?_eq_some_iff.1 h.res).1 (by omega)).trans h.res, hR, h.old.trans (ht.below (B := w.heap.size) h.old.size (by omega)), hp⟩
theorem DsSt.grown {w : World} {s : ByteArray} {pk code a : Nat} {W W' : World} (h : DsSt w s pk code a W) {row : Option Nat} (hg : W.grownBy W' row) (hr : ∀ b, row = some b → w.heap.size + 1 < b) : DsSt w s pk code a W' := by
  have hl := h.rd.lt
  refine ⟨(hg.block _ (by omega) (fun e => by have := hr _ e.symm; omega)).trans h.res, ?_, h.old.grown hg h.old.size (fun b e => by have := hr b e; omega), h.le⟩
  have := h.rd
  unfold RdAt at *
  rw [hg.block _ hl (fun e => by have := hr _ e.symm; omega)]
  exact this

set_option maxRecDepth 100000 in
set_option maxHeartbeats 16000000 in
theorem parseAny_calls (s : ByteArray) (D wb wo wc : Nat) (w : World) (hs : s.size ≤ 200000) (hD : 200000 < D) (hw : WordsAt w wb wo wc) :
    Calls Tryz.prog 15 #[.string s] w fun e w' => DAnswer w s D e w' := by
  have HW := hide hw
  have hwl := hw.lt
  have HSt : Hid (DsSt w s 0 0 0 ((w.alloc (.cells #[.int .i64 0, .int .i64 0] 33)).alloc (.cells #[.string s, .int .i64 0, .int .i64 0, .int .i64 0] 80))) := by
    refine ⟨?_, ?_, ((Below.refl _ _).alloc (Nat.le_refl _) _).alloc (by simp) _, Nat.zero_le _⟩
    · rw [Below.heap_alloc _ _ _ (by simp)]
      exact heap_alloc_new w _
    · have := heap_alloc_new (w.alloc (.cells #[.int .i64 0, .int .i64 0] 33)) (.cells #[.string s, .int .i64 0, .int .i64 0, .int .i64 0] 80)
      simpa [RdAt] using this
  obtain ⟨i0, hi, hz0, hz1, hz2⟩ := infoParts Tryz.info46'
  clear hw
  go_enter Tryz.func15, Tryz.ntmps15
  go_wp2_with fail
  go_loopg [5] (s.size + 1) (fun g v wr => ∃ (ds : List Dc) (xs : List Value) (pk code ak : Nat) (A : Option Addr) (n c : Nat), v = .slice A n c ∧ g = (if code = 0 then s.size + 1 - pk else 0) ∧ Hid (DsSt w s pk code ak wr) ∧ Hid ((code = 0 ∧ SeqG (DeclAt s D) ds 0 pk ∧ ds.length ≤ pk ∧ n = ds.length ∧ GRow (DK D ds) wr 46 15 0 (w.heap.size + 2) ds.length (.slice A n c) xs) ∨ (code = 1 ∧ bDecls s D 0 ak)))
  case atStart => exact ⟨[], [], 0, 0, 0, none, 0, 0, rfl, by simp, HSt.out, .inl ⟨rfl, rfl, Nat.zero_le _, rfl, GRow.start _ _ _ _ _ _⟩⟩
  case round =>
    clear HSt
    obtain ⟨ds, xs, pk, code, ak, A, n, c, rfl, hg, HR, HJ⟩ := hrel
    have r2 := HR.out.rd.c2
    have r3 := HR.out.rd.c3
    have rl := HR.out.rd.lt
    have hres := HR.out.res
    have o0 : wr.cell? ⟨w.heap.size, 0, none⟩ = some (.int .i64 0) := cell_of hres 0 rfl
    have o1 : wr.cell? ⟨w.heap.size, 1, none⟩ = some (.int .i64 0) := cell_of hres 1 rfl
    have of_ : ∀ i, wr.frozen? ⟨w.heap.size, i, none⟩ = false := fun i => frozen_of hres i
    have ol : w.heap.size < wr.heap.size := (Array.getElem?_eq_some_iff.1 hres).1
    clear hres
    by_cases hc : code = 0
    rotate_left
    · have q : ((code : Int) == 0) = false := by simp; omega
      have HX : Hid (code = 1 ∧ bDecls s D 0 ak) := by
        rcases HJ.out with h | h
        · exact absurd h.1 hc
        · exact h
      have HF : Hid (∀ W', Below w.heap.size w W' → DAnswer w s D (.returned (.tuple #[.slice none 0 0, .agg #[.int .i64 (code : Nat), .int .i64 (ak : Nat)]])) W') := fun W' hW => .inr ⟨code, ak, .inl ⟨hs, HX.out⟩, rfl, hW⟩
      have HBw := hide HR.out.old
      clear hc hg HJ HX
      go_wp2_with fail
      go_region
      all_goals
        go_wp2_with fail
        refine bodyPost_ret (v := .tuple #[.slice none 0 0, .agg #[.int .i64 (code : Nat), .int .i64 (ak : Nat)]]) (by simp [results, Tryz.results15, go_sem, o0, o1]) rfl ?_
        exact HF.out _ ((HBw.out.drew.setCell (p := ⟨w.heap.size, 0, none⟩) (Nat.le_refl _) _).setCell (p := ⟨w.heap.size, 1, none⟩) (Nat.le_refl _) _)
    subst hc
    obtain ⟨hsq, hfew, hn, hrow⟩ : SeqG (DeclAt s D) ds 0 pk ∧ ds.length ≤ pk ∧ n = ds.length ∧ GRow (DK D ds) wr 46 15 0 (w.heap.size + 2) ds.length (.slice A n c) xs := by
      rcases HJ.out with h | h
      · exact h.2
      · exact absurd h.1 (by decide)
    have HSq := hide hsq
    have HN := hide hn
    have HRow := hide hrow
    rw [if_pos rfl] at hg
    have hple := HR.out.le
    clear HJ hsq hn hrow
    have KT := hide (token_calls s pk (w.heap.size + 1) wr hs HR.out.le HR.out.rd.c0 HR.out.rd.c1)
    have HEnd := hide (tok_end HR.out.le)
    obtain ⟨t9, ht9⟩ : ∃ t9, t9 = (tok s pk).t := ⟨_, rfl⟩
    obtain ⟨k9, hk9⟩ : ∃ k9, k9 = (tok s pk).at_ := ⟨_, rfl⟩
    obtain ⟨ok9, hok9⟩ : ∃ ok9, ok9 = (tok s pk).ok := ⟨_, rfl⟩
    rw [← ht9, ← hk9, ← hok9] at KT
    rw [← ht9, ← hok9] at HEnd
    clear ht9 hk9 hok9
    by_cases he : ok9 = true ∧ t9 = ⟨#[]⟩
    · have HFi : Hid (FileIs s D ds) := ⟨hs, pk, declsAt_iff.2 HSq.out, HEnd.out.1 he, by omega⟩
      obtain ⟨rfl, h0⟩ := he
      have y0 := sameLit_pos (l := []) h0
      have HF : Hid (∀ u v, DAnswer w s D (.returned (.tuple #[.slice A n c, .agg #[.int .i64 0, .int .i64 0]])) ((wr.setCell ⟨w.heap.size, 0, none⟩ u).setCell ⟨w.heap.size, 1, none⟩ v)) := fun u v => by
        refine .inl ⟨ds, A, c, HFi.out, by rw [HN.out], ?_, (HR.out.old.setCell (p := ⟨w.heap.size, 0, none⟩) (Nat.le_refl _) _).setCell (p := ⟨w.heap.size, 1, none⟩) (Nat.le_refl _) _⟩
        have hrow := HRow.out
        rw [HN.out] at hrow
        exact (DsV.of_row hrow).keep fun b _ hb => ⟨by omega, by rw [Below.heap_setCell _ _ _ _ (by show b ≠ w.heap.size; omega), Below.heap_setCell _ _ _ _ (by show b ≠ w.heap.size; omega)]⟩
      clear h0
      go_wp2_with (go_at_call 33; refine KT.out.mono ?_; rintro e w' ⟨rfl, rfl⟩)
      refine bodyPost_ret (v := .tuple #[.slice A n c, .agg #[.int .i64 0, .int .i64 0]]) (by simp [results, Tryz.results15, go_sem, o0, o1]) rfl ?_
      exact HF.out _ _
    have HNe : Hid (runTo blankB s pk ≠ s.size) := fun e => he (HEnd.out.2 e)
    have q5 : ok9 = false ∨ (ok9 = true ∧ t9 ≠ ⟨#[]⟩) := by
      cases ok9
      · exact .inl rfl
      · exact .inr ⟨rfl, fun e => he ⟨rfl, e⟩⟩
    have KD := hide (ddecl_calls (w.heap.size + 1) s pk ak D wb wo wc wr hs HR.out.le HR.out.rd ((HW.out.of_blocks (HR.out.old.block 1 hwl.1) (HR.out.old.block wb hwl.2))) (by omega) (by omega) hD)
    clear he HEnd
    rcases q5 with rfl | ⟨rfl, h0⟩
    rotate_left
    have y0 := sameLit_neg (l := []) h0
    clear h0
    rotate_left
    all_goals
      go_wp2_with (first | (go_at_call 33; refine KT.out.mono ?_; rintro e wr ⟨rfl, rfl⟩) | (go_at_call 34; refine KD.out.mono ?_))
      intro e w6 h9
      obtain ⟨l, p6, c6, a6, rfl, hl15, hone, hR6, hT6, hl6, hJ6⟩ := h9
      have hth : (w6.alloc zdc).there w6.heap.size 0 l.toArray.size := by
        have := there_of (heap_alloc_new w6 zdc)
        simpa [hl15] using this
      have HTh := hide hth
      have HOne := hide hone
      have HSz : Hid ((Tryz.prog.info? 46).map (·.size) = some l.length) := by
        have := Tryz.size45
        rw [← hl15] at this
        exact hide this
      have HRg2 : Hid (((w6.alloc zdc).setCells w6.heap.size 0 l).rangeAt w6.heap.size 0 l) := World.rangeAt_setCells_same _ _ _ _ (by have := HTh.out; simpa using this)
      have HFo := hide (fold15 hl15)
      have hz6 := hT6.size
      have HT6 := hide hT6
      have hB7 : Below w6.heap.size w6 ((w6.alloc zdc).setCells w6.heap.size 0 l) := setCells_below (Nat.le_refl _) _ _ ((Below.refl _ _).alloc (Nat.le_refl _) _)
      have HT7 : Hid (Touched wr (w.heap.size + 1) ((w6.alloc zdc).setCells w6.heap.size 0 l)) := hT6.trans (Touched.of_below hB7)
      have hn := HN.out
      subst hn
      clear hth
      go_upto_region 8 with (refine wpList_store_mid rfl 46 _ _ rfl w6.heap.size 0 l.toArray rfl rfl HTh.out HSz.out HOne.out ?_)
      have HJ7 : Hid ((c6 = 0 ∧ ∃ d, DeclAt s D d pk p6 ∧ DeclV ((w6.alloc zdc).setCells w6.heap.size 0 l) (fun b => wr.heap.size ≤ b) D d (.agg l.toArray)) ∨ (c6 = 1 ∧ bDecl s D pk a6)) := hJ6.imp (fun ⟨h0, d, hd, hin⟩ => ⟨h0, d, hd, hin.keep fun b hb hS => ⟨by omega, hB7.block b hb⟩⟩) id
      have HR7 : Hid (RdAt ((w6.alloc zdc).setCells w6.heap.size 0 l) (w.heap.size + 1) s p6 c6 a6) := by
        have h1 := hR6
        have h2 := hB7.block (w.heap.size + 1) hR6.lt
        unfold RdAt at *
        rw [h2]
        exact hide h1
      have hz7 := hB7.size
      clear HTh HT6 hR6 hT6 hJ6 hB7
      generalize ((w6.alloc zdc).setCells w6.heap.size 0 l) = w7 at *
      have HO6 := hide ((HRow.out.own.kept (row := some (w.heap.size + 1)) HT7.out (.inr (fun e => by have := (HRow.out.own.lt _ e).1; omega))).alloc (.cells l.toArray 46))
      go_wp2_with (first | (refine wpList_load_mid rfl 46 _ rfl w6.heap.size 0 rfl l _ HRg2.out Tryz.underlying46 rfl HSz.out ?_) | (at_builtin; rw [HFo.out]; refine wpList_append_placed _ rfl _ _ 27 rfl (w.heap.size + 2) 46 i0 _ 15 240 Tryz.underlying27 hi hz0 hz1 hz2 rfl (by decide) (.slice A ds.length c) ds.length (flat xs) rfl HO6.out ⟨w7.heap.size, 0, none⟩ 1 1 l rfl (by rw [hl15]) (cells_new _ _ _) ?m2 (by decide) ?m3 ?m4 ?m5 ?_))
      case m2 =>
        intro u hu
        have h := HOne.out
        simp at h
        exact h u hu
      case m3 => unfold maxLen; omega
      case m4 => omega
      case m5 => simp; omega
      intro v' w8 hown8 hgr8 hpl8
      have HMo : Hid (∀ d, DeclV w7 (fun b => wr.heap.size ≤ b) D d (.agg l.toArray) → GRow (DK D (ds ++ [d])) w8 46 15 0 (w.heap.size + 2) (ds ++ [d]).length v' (xs ++ [.agg l.toArray])) := fun d hin => ds_more hl15 (by omega) (by omega) HRow.out HT7.out hin hown8 hgr8 (by simpa using hpl8)
      obtain ⟨ao8, cA8, hu⟩ := own_row_slice hown8
      subst hu
      have HS8 : Hid (DsSt w s p6 c6 a6 w8) := ((HR.out.touched HT7.out HR7.out hl6).grown (World.grownBy_alloc w7 (.cells l.toArray 46) none) (fun b e => by cases e)).grown hgr8 (fun b e => by have := (HO6.out.lt b e).1; omega)
      clear hown8 hgr8 hpl8 HO6 HRg2
      go_wp2_with fail
      go_roundg (if c6 = 0 then s.size + 1 - p6 else 0)
      case measure =>
        rcases HJ7.out with ⟨h, d, hd, _⟩ | ⟨h, _⟩
        · have := hd.lt hs
          rw [if_pos h]
          omega
        · rw [if_neg (by omega)]
          omega
      case rel =>
        rcases HJ7.out with ⟨h, d, hd, hin⟩ | ⟨h, hb⟩
        · have := hd.lt hs
          exact ⟨ds ++ [d], xs ++ [.agg l.toArray], p6, c6, a6, ao8, ds.length + 1, cA8, rfl, rfl, HS8.out, .inl ⟨h, HSq.out.snoc hd, by simp; omega, by simp, HMo.out d hin⟩⟩
        · exact ⟨ds, xs, p6, c6, a6, ao8, ds.length + 1, cA8, rfl, rfl, HS8.out, .inr ⟨h, ds, pk, HSq.out, HNe.out, hb⟩⟩

set_option maxRecDepth 100000 in
set_option maxHeartbeats 16000000 in
theorem parseFile_calls (s : ByteArray) (D wb wo wc : Nat) (w : World) (hD : 200000 < D) (hw : WordsAt w wb wo wc) :
    Calls Tryz.prog 6 #[.string s] w fun e w' => DAnswer w s D e w' := by
  have hwl := hw.lt
  have HR : Hid ((w.alloc (.cells #[.int .i64 0, .int .i64 0] 33)).heap[w.heap.size]? = some (.cells #[.int .i64 0, .int .i64 0] 33 (0, 0))) := heap_alloc_new w _
  have HO : Hid (Below w.heap.size w (w.alloc (.cells #[.int .i64 0, .int .i64 0] 33))) := (Below.refl _ _).alloc (Nat.le_refl _) _
  by_cases hs : s.size ≤ 200000
  · have KP := hide (parseAny_calls s D wb wo wc (w.alloc (.cells #[.int .i64 0, .int .i64 0] 33)) hs hD (hw.of_blocks (Below.heap_alloc _ _ _ hwl.1) (Below.heap_alloc _ _ _ hwl.2)))
    have q : ¬ 200000 < s.size := by omega
    have q' : decide ((s.size : Int) > 200000) = false := by simp; omega
    clear hw
    go_enter Tryz.func6, Tryz.ntmps6
    go_wp2_with (go_at_call 15; refine KP.out.mono ?_)
    intro e w1 h9
    rcases h9 with ⟨ds, A, c, hF, rfl, hV, hB⟩ | ⟨code, a, hF, rfl, hB⟩
    · have hN := (hB.block w.heap.size (by simp)).trans HR.out
      have o0 : w1.cell? ⟨w.heap.size, 0, none⟩ = some (.int .i64 0) := cell_of hN 0 rfl
      have o1 : w1.cell? ⟨w.heap.size, 1, none⟩ = some (.int .i64 0) := cell_of hN 1 rfl
      have of_ : ∀ i, w1.frozen? ⟨w.heap.size, i, none⟩ = false := fun i => frozen_of hN i
      have ol : w.heap.size < w1.heap.size := (Array.getElem?_eq_some_iff.1 hN).1
      have HF : Hid (∀ u v, DAnswer w s D (.returned (.tuple #[.slice A ds.length c, .agg #[.int .i64 0, .int .i64 0]])) ((w1.setCell ⟨w.heap.size, 0, none⟩ u).setCell ⟨w.heap.size, 1, none⟩ v)) := fun u v => by
        refine .inl ⟨ds, A, c, hF, rfl, ?_, ((HO.out.trans (hB.mono (by simp))).setCell (p := ⟨w.heap.size, 0, none⟩) (Nat.le_refl _) _).setCell (p := ⟨w.heap.size, 1, none⟩) (Nat.le_refl _) _⟩
        exact hV.keep fun b _ hb => ⟨by simp at hb; omega, by simp at hb; rw [Below.heap_setCell _ _ _ _ (by show b ≠ w.heap.size; omega), Below.heap_setCell _ _ _ _ (by show b ≠ w.heap.size; omega)]⟩
      clear hN hF hV hB KP HR HO
      generalize ds.length = n at *
      go_wp2_with fail
      refine bodyPost_ret (v := .tuple #[.slice A n c, .agg #[.int .i64 0, .int .i64 0]]) (by simp [results, Tryz.results6, go_sem, o0, o1]) rfl ?_
      exact HF.out _ _
    · have hN := (hB.block w.heap.size (by simp)).trans HR.out
      have o0 : w1.cell? ⟨w.heap.size, 0, none⟩ = some (.int .i64 0) := cell_of hN 0 rfl
      have o1 : w1.cell? ⟨w.heap.size, 1, none⟩ = some (.int .i64 0) := cell_of hN 1 rfl
      have of_ : ∀ i, w1.frozen? ⟨w.heap.size, i, none⟩ = false := fun i => frozen_of hN i
      have ol : w.heap.size < w1.heap.size := (Array.getElem?_eq_some_iff.1 hN).1
      have HF : Hid (∀ u v, DAnswer w s D (.returned (.tuple #[.slice none 0 0, .agg #[.int .i64 (code : Nat), .int .i64 (a : Nat)]])) ((w1.setCell ⟨w.heap.size, 0, none⟩ u).setCell ⟨w.heap.size, 1, none⟩ v)) := fun u v =>
        .inr ⟨code, a, hF, rfl, ((HO.out.trans (hB.mono (by simp))).setCell (p := ⟨w.heap.size, 0, none⟩) (Nat.le_refl _) _).setCell (p := ⟨w.heap.size, 1, none⟩) (Nat.le_refl _) _⟩
      clear hN hF hB KP HR HO
      go_wp2_with fail
      refine bodyPost_ret (v := .tuple #[.slice none 0 0, .agg #[.int .i64 (code : Nat), .int .i64 (a : Nat)]]) (by simp [results, Tryz.results6, go_sem, o0, o1]) rfl ?_
      exact HF.out _ _
  · have q : 200000 < s.size := by omega
    have q' : decide ((s.size : Int) > 200000) = true := by simp; omega
    have HF : Hid (DAnswer w s D (.returned (.tuple #[.slice none 0 0, .agg #[.int .i64 2, .int .i64 0]])) (w.alloc (.cells #[.int .i64 2, .int .i64 0] 33))) :=
      .inr ⟨2, 0, .inr ⟨q, rfl, rfl⟩, rfl, (Below.refl _ _).alloc (Nat.le_refl _) _⟩
    clear hw HR HO
    go_enter Tryz.func6, Tryz.ntmps6
    go_wp2_with fail
    refine bodyPost_ret (v := .tuple #[.slice none 0 0, .agg #[.int .i64 2, .int .i64 0]]) (by simp [results, Tryz.results6, go_sem]) rfl ?_
    exact HF.out

end Go.Proofs.YtjlibnijecdgcaaGreatDoor
