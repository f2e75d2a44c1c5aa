/- The contracts of the document's PrintDecl and PrintFile. -/
import Derived.Test.YtjlibnijecdgcaaGreatDoorFRead
import Derived.Test.YtjlibnijecdgcaaGreatDoorDFile
import Derived.Test.YtjlibnijecdgcaaGreatDoorRPrintTDoc2

namespace Go.Proofs.YtjlibnijecdgcaaGreatDoor
open Go.RowKit

/-- The box of a declaration's own copy. -/
structure BSt (w : World) (vs : Array Value) (W : World) : Prop where
  var : W.heap[w.heap.size]? = some (.cells vs 46 (0, 0))
  old : Below w.heap.size w W
theorem BSt.lt {w : World} {vs : Array Value} {W : World} (h : BSt w vs W) : w.heap.size < W.heap.size := (Array.getElem?_eq_some_iff.1 h.var).1
theorem BSt.later {w : World} {vs : Array Value} {W : World} (h : BSt w vs W) {W' : World} (hb : Below W.heap.size W W') : BSt w vs W' :=
  ⟨(hb.block _ h.lt).trans h.var, h.old.trans (hb.mono h.old.size)⟩

def open1 (kd : Nat) : List UInt8 := if kd = 2 then [40, 100, 101, 102, 32] else [40, 97, 120, 105, 111, 109, 32]
def open2 (kd : Nat) : List UInt8 := if kd = 3 then [40, 105, 110, 100, 117, 99, 116, 105, 118, 101, 32] else open1 kd
def xar (kd ar : Nat) : List UInt8 := if kd = 3 then Lib.decDigits ar ++ [32] else []
def xvl (D kd : Nat) (vl : Tm) : List UInt8 := if kd = 2 then 32 :: textT D vl else []
theorem open2_len (kd : Nat) : (open2 kd).length ≤ 11 := by unfold open2 open1; split <;> (try split) <;> simp
theorem open2_eq {kd : Nat} (h1 : 1 ≤ kd) (h3 : kd ≤ 3) : open2 kd = 40 :: ((dword kd).data.toList ++ [32]) := by
  have : kd = 1 ∨ kd = 2 ∨ kd = 3 := by omega
  rcases this with rfl | rfl | rfl <;> rfl
theorem spaced_map {α : Type} (f : α → List UInt8) (xs : List α) : spaced id (xs.map f) = spaced f xs := by simp [spaced, List.flatMap_map]
theorem dtext_doc {D kd : Nat} {nm : ByteArray} {ps : List ByteArray} {ty vl : Tm} {ar : Nat} {cs : List (ByteArray × Tm)} (h1 : 1 ≤ kd) (h3 : kd ≤ 3) (h0 : kd ≠ 3 → cs = []) :
    dtext D ⟨kd, nm, ps, ty, vl, ar, cs⟩ = open2 kd ++ nm.data.toList ++ [32, 40] ++ joinS (ps.map fun q => q.data.toList) ++ [41, 32] ++ xar kd ar ++ textT D ty ++ xvl D kd vl ++ spaced (ctext D) cs ++ [41] := by
  rw [open2_eq h1 h3]
  unfold dtext dparts xar xvl
  by_cases k3 : kd = 3
  · have k2 : ¬ kd = 2 := by omega
    simp [k3, inB, joinS, spaced, List.flatMap_map]
  · have k0 := h0 k3
    subst k0
    by_cases k2 : kd = 2
    · simp [k2, inB, joinS, spaced]
    · simp [k2, k3, inB, joinS, spaced]
theorem joinS_snoc (xs : List (List UInt8)) (x : List UInt8) : joinS (xs ++ [x]) = joinS xs ++ (if xs = [] then [] else [32]) ++ x := by
  cases xs with
  | nil => simp [joinS, spaced]
  | cons y ys => simp [joinS, spaced]
theorem joinS_take (ps : List ByteArray) (k : Nat) (h : k < ps.length) : joinS ((ps.take (k + 1)).map fun q => q.data.toList) = joinS ((ps.take k).map fun q => q.data.toList) ++ (if k = 0 then [] else [32]) ++ ps[k].data.toList := by
  rw [List.take_succ_eq_append_getElem h, List.map_append, List.map_singleton, joinS_snoc]
  have : ((ps.take k).map (fun q => q.data.toList) = []) ↔ k = 0 := by
    rw [List.map_eq_nil_iff, List.take_eq_nil_iff]
    constructor
    · rintro (h' | h')
      · exact h'
      · rw [h'] at h; simp at h
    · exact .inl
  by_cases h0 : k = 0
  · rw [if_pos h0, if_pos (this.2 h0)]
  · rw [if_neg h0, if_neg (fun e => h0 (this.1 e))]
theorem joinS_le (ps : List ByteArray) : ∀ k, (joinS ((ps.take k).map fun q => q.data.toList)).length ≤ (joinS (ps.map fun q => q.data.toList)).length := by
  have step : ∀ j k, j ≤ k → (joinS ((ps.take j).map fun q => q.data.toList)).length ≤ (joinS ((ps.take k).map fun q => q.data.toList)).length := by
    intro j k hjk
    induction hjk with
    | refl => exact Nat.le_refl _
    | @step m _ ih =>
      by_cases hm : m < ps.length
      · rw [joinS_take ps m hm]
        simp only [List.length_append]
        omega
      · rw [List.take_of_length_le (i := m + 1) (by omega)]
        rw [List.take_of_length_le (i := m) (by omega)] at ih
        exact ih
  intro k
  by_cases hk : k ≤ ps.length
  · have := step k ps.length hk
    rwa [List.take_length] at this
  · rw [List.take_of_length_le (by omega)]
    exact Nat.le_refl _
theorem bytes_nm (l : List UInt8) (q : ByteArray) : (⟨l.toArray⟩ ++ q : ByteArray) = ⟨(l ++ q.data.toList).toArray⟩ := by
  apply ByteArray.ext
  simp

set_option maxRecDepth 100000 in
set_option maxHeartbeats 16000000 in
theorem rprintDecl_calls (wb wo wc D : Nat) (d : Dc) (v : Value) (w : World) (hw : WordsAt w wb wo wc) (hf : FitD D d) (hv : DeclV w (fun _ => True) D d v) :
    Calls Tryz.prog 12 #[v] w fun e w' => e = .returned (.string ⟨(dtext D d).toArray⟩) ∧ Below w.heap.size w w' := by
  obtain ⟨kd, nm, ps, ty, vl, ar, cs⟩ := d
  obtain ⟨Ap, cp, kt, nt, nmt, At, lt, ct, At', lt', ct', kv, nv, nmv, Av, lv, cv, Av', lv', cv', Ac, cc, rfl, hN, hT, hV, hC, hcp⟩ := hv
  simp only at hN hT hV hC hcp
  have hk1 : 1 ≤ kd := hf.good.k1
  have hk3 : kd ≤ 3 := hf.good.k3
  have HE := hide (dtext_doc (D := D) (nm := nm) (ps := ps) (ty := ty) (vl := vl) (ar := ar) hk1 hk3 hf.good.cs0)
  have hlen : (open2 kd).length + nm.size + (joinS (ps.map fun q => q.data.toList)).length + (xar kd ar).length + (textT D ty).length + (xvl D kd vl).length + (spaced (ctext D) cs).length + 5 ≤ 400000000 := by
    have h1 := hf.len
    rw [HE.out] at h1
    simp only [List.length_append, List.length_cons, List.length_nil] at h1
    have h2 : nm.data.toList.length = nm.size := Array.length_toList
    omega
  have hwl := hw.lt
  have HW := hide hw
  have HF := hide hf
  have HN := hide hN
  have HTy := hide hT
  have HVl := hide hV
  have HCs := hide hC
  obtain ⟨pn, hpn⟩ : ∃ pn : Nat, pn = ps.length := ⟨_, rfl⟩
  obtain ⟨cn, hcn⟩ : ∃ cn : Nat, cn = cs.length := ⟨_, rfl⟩
  have HPn := hide hpn
  have HCn := hide hcn
  have ho2 := open2_len kd
  have hpl : pn ≤ 200000 := by have := hf.pl; simp only at this; omega
  have hcl : cn ≤ 200000 := by have := hf.cl; simp only at this; omega
  clear hw hf hN hT hV hC hcp
  show Calls Tryz.prog 12 #[.agg #[.int .i64 (kd : Nat), .string nm, .slice Ap ps.length cp, .int .i64 kt, .int .i64 nt, .string nmt, .slice At lt ct, .slice At' lt' ct', .int .i64 kv, .int .i64 nv, .string nmv, .slice Av lv cv, .slice Av' lv' cv', .int .i64 (ar : Nat), .slice Ac cs.length cc]] w _
  rw [← hpn, ← hcn]
  clear hpn hcn
  have HB0 : Hid (BSt w #[.int .i64 (kd : Nat), .string nm, .slice Ap pn cp, .int .i64 kt, .int .i64 nt, .string nmt, .slice At lt ct, .slice At' lt' ct', .int .i64 kv, .int .i64 nv, .string nmv, .slice Av lv cv, .slice Av' lv' cv', .int .i64 (ar : Nat), .slice Ac cn cc] (w.alloc (.cells #[.int .i64 (kd : Nat), .string nm, .slice Ap pn cp, .int .i64 kt, .int .i64 nt, .string nmt, .slice At lt ct, .slice At' lt' ct', .int .i64 kv, .int .i64 nv, .string nmv, .slice Av lv cv, .slice Av' lv' cv', .int .i64 (ar : Nat), .slice Ac cn cc] 46))) := ⟨heap_alloc_new w _, (Below.refl _ _).alloc (Nat.le_refl _) _⟩
  go_enter Tryz.func12, Tryz.ntmps12
  go_upto_region 2 with fail
  generalize w.alloc (.cells #[.int .i64 (kd : Nat), .string nm, .slice Ap pn cp, .int .i64 kt, .int .i64 nt, .string nmt, .slice At lt ct, .slice At' lt' ct', .int .i64 kv, .int .i64 nv, .string nmv, .slice Av lv cv, .slice Av' lv' cv', .int .i64 (ar : Nat), .slice Ac cn cc] 46) = W0 at *
  have el := HB0.out.lt
  have e0 : W0.cell? ⟨w.heap.size, 0, none⟩ = some (.int .i64 (kd : Nat)) := cell_at HB0.out.var 0 rfl
  go_upto_if 8 with fail
  go_cut [3] (fun v wx => v = .string ⟨(open1 kd).toArray⟩ ∧ Hid (BSt w #[.int .i64 (kd : Nat), .string nm, .slice Ap pn cp, .int .i64 kt, .int .i64 nt, .string nmt, .slice At lt ct, .slice At' lt' ct', .int .i64 kv, .int .i64 nv, .string nmv, .slice Av lv cv, .slice Av' lv' cv', .int .i64 (ar : Nat), .slice Ac cn cc] wx))
  case first =>
    as_aux_lemma =>
    by_cases hk : kd = 2
    · have q3 : ((kd : Int) == 2) = true := by simp [hk]
      have HK := hide hk
      clear hk
      go_wp2_with fail
      go_meet
      case rel => exact ⟨by rw [open1, if_pos HK.out], HB0.out⟩
    · have q3 : ((kd : Int) == 2) = false := by simp; omega
      have HK := hide hk
      clear hk
      go_wp2_with fail
      go_meet
      case rel => exact ⟨by rw [open1, if_neg HK.out], HB0.out⟩
  case rest =>
  as_aux_lemma =>
  rename World => wA
  obtain ⟨hu, HA⟩ := hcut
  subst hu
  clear HB0 el e0
  have el := HA.out.lt
  have e0 : wA.cell? ⟨w.heap.size, 0, none⟩ = some (.int .i64 (kd : Nat)) := cell_at HA.out.var 0 rfl
  go_upto_if 11 with fail
  go_cut [3] (fun v wx => v = .string ⟨(open2 kd).toArray⟩ ∧ Hid (BSt w #[.int .i64 (kd : Nat), .string nm, .slice Ap pn cp, .int .i64 kt, .int .i64 nt, .string nmt, .slice At lt ct, .slice At' lt' ct', .int .i64 kv, .int .i64 nv, .string nmv, .slice Av lv cv, .slice Av' lv' cv', .int .i64 (ar : Nat), .slice Ac cn cc] wx))
  case first =>
    as_aux_lemma =>
    by_cases hk : kd = 3
    · have q3 : ((kd : Int) == 3) = true := by simp [hk]
      have HK := hide hk
      clear hk
      go_wp2_with fail
      go_meet
      case rel => exact ⟨by rw [open2, if_pos HK.out], HA.out⟩
    · have q3 : ((kd : Int) == 3) = false := by simp; omega
      have HK := hide hk
      clear hk
      go_wp2_with fail
      go_meet
      case rel => exact ⟨by rw [open2, if_neg HK.out], HA.out⟩
  case rest =>
  as_aux_lemma =>
  rename World => wB
  obtain ⟨hu, HB⟩ := hcut
  subst hu
  clear HA el e0
  have el := HB.out.lt
  have e1 : wB.cell? ⟨w.heap.size, 1, none⟩ = some (.string nm) := cell_at HB.out.var 1 rfl
  have e2 : wB.cell? ⟨w.heap.size, 2, none⟩ = some (.slice Ap pn cp) := cell_at HB.out.var 2 rfl
  obtain ⟨P0, hP0⟩ : ∃ P0, P0 = open2 kd := ⟨_, rfl⟩
  obtain ⟨JL, hJL⟩ : ∃ JL, JL = (joinS (ps.map fun q => q.data.toList)).length := ⟨_, rfl⟩
  have HJL : Hid (∀ k, (joinS ((ps.take k).map fun q => q.data.toList)).length ≤ JL) := by rw [hJL]; exact joinS_le ps
  rw [← hP0] at hlen HE ho2 ⊢
  rw [← hJL] at hlen
  have HP0 := hide hP0
  clear hP0 hJL
  have HS1 : Hid ((⟨P0.toArray⟩ ++ nm ++ ⟨#[32, 40]⟩ : ByteArray) = ⟨(P0 ++ nm.data.toList ++ [32, 40]).toArray⟩) := by apply ByteArray.ext; simp
  obtain ⟨P1, hP1⟩ : ∃ P1, P1 = P0 ++ nm.data.toList ++ [32, 40] := ⟨_, rfl⟩
  have hl1 : P1.length = P0.length + nm.size + 2 := by rw [hP1]; simp only [List.length_append, List.length_cons, List.length_nil]; have h2 : nm.data.toList.length = nm.size := Array.length_toList; omega
  rw [← hP1] at HS1 HE
  have HP1 := hide hP1
  clear hP1
  go_wp2_with fail
  go_loopg [3, 4] pn (fun g s i wr => ∃ (k : Nat), k + g = pn ∧ i = .int .i64 k ∧ s = .string ⟨(P1 ++ joinS ((ps.take k).map fun q => q.data.toList)).toArray⟩ ∧ Hid (BSt w #[.int .i64 (kd : Nat), .string nm, .slice Ap pn cp, .int .i64 kt, .int .i64 nt, .string nmt, .slice At lt ct, .slice At' lt' ct', .int .i64 kv, .int .i64 nv, .string nmv, .slice Av lv cv, .slice Av' lv' cv', .int .i64 (ar : Nat), .slice Ac cn cc] wr))
  case atStart => exact ⟨0, by omega, rfl, by rw [HS1.out]; simp [joinS], HB.out⟩
  case round =>
    clear el e1 e2 HB
    obtain ⟨k, hkg, rfl, rfl, HR⟩ := hrel
    have el := HR.out.lt
    have e0 : wr.cell? ⟨w.heap.size, 0, none⟩ = some (.int .i64 (kd : Nat)) := cell_at HR.out.var 0 rfl
    have e2 : wr.cell? ⟨w.heap.size, 2, none⟩ = some (.slice Ap pn cp) := cell_at HR.out.var 2 rfl
    have hj := HJL.out k
    obtain ⟨J, hJ⟩ : ∃ J, J = joinS ((ps.take k).map fun q => q.data.toList) := ⟨_, rfl⟩
    rw [← hJ] at hj ⊢
    by_cases hk : k < pn
    · have hkp : k < ps.length := by rw [← HPn.out]; exact hk
      obtain ⟨b, rfl, -, hc⟩ := nms_on HN.out HR.out.old k hkp
      have hbl := World.block_lt_of_cell? _ _ hc
      have q : decide ((k : Int) < (pn : Int)) = true := by simp; omega
      have HJs := hide (joinS_take ps k hkp)
      rw [← hJ] at HJs
      have hj1 := HJL.out (k + 1)
      rw [HJs.out] at hj1
      simp only [List.length_append] at hj1
      have hql : ps[k].data.toList.length = ps[k].size := Array.length_toList
      obtain ⟨qk, hqk⟩ : ∃ qk, qk = ps[k] := ⟨_, rfl⟩
      rw [← hqk] at HJs hc hj1 hql
      rw [hql] at hj1
      clear hqk hJ hql
      have HRb : Hid (¬ 0 < k → (⟨(P1 ++ J).toArray⟩ ++ qk : ByteArray) = ⟨(P1 ++ joinS ((ps.take (k + 1)).map fun q => q.data.toList)).toArray⟩) := fun h0 => by
        rw [HJs.out, if_pos (by omega)]
        apply ByteArray.ext
        simp
      have HRa : Hid (0 < k → (⟨(P1 ++ J).toArray⟩ ++ ⟨#[32]⟩ ++ qk : ByteArray) = ⟨(P1 ++ joinS ((ps.take (k + 1)).map fun q => q.data.toList)).toArray⟩) := fun h0 => by
        rw [HJs.out, if_neg (by omega)]
        apply ByteArray.ext
        simp
      have hsz : (P1 ++ J).length = P1.length + J.length := List.length_append
      have hj2 : J.length + qk.size ≤ JL := by omega
      generalize P1 ++ J = PJ at *
      clear HJs hj1
      go_wp2_with fail
      · rename_i h0
        go_roundg (pn - (k + 1))
        case measure => omega
        case rel => exact ⟨k + 1, by omega, by go_num, by rw [HRa.out h0], HR.out⟩
      · rename_i h0
        go_roundg (pn - (k + 1))
        case measure => omega
        case rel => exact ⟨k + 1, by omega, by go_num, by rw [HRb.out h0], HR.out⟩
    · have hke : pn = k := by omega
      subst hke
      have q : decide ((pn : Int) < (pn : Int)) = false := by simp
      rw [HPn.out, List.take_length] at hJ
      have HJ := hide hJ
      clear hJ hk
      have HS2 : Hid ((⟨(P1 ++ J).toArray⟩ ++ ⟨#[41, 32]⟩ : ByteArray) = ⟨(P1 ++ J ++ [41, 32]).toArray⟩) := bytes_append _ [41, 32]
      obtain ⟨P2, hP2⟩ : ∃ P2, P2 = P1 ++ J ++ [41, 32] := ⟨_, rfl⟩
      have hl2 : P2.length = P1.length + J.length + 2 := by rw [hP2]; simp; omega
      have hsz : (P1 ++ J).length = P1.length + J.length := List.length_append
      rw [← hP2] at HS2
      have HP2 := hide hP2
      clear hP2
      generalize hPJ : P1 ++ J = PJ at *
      have HPJ := hide hPJ
      clear hPJ
      have e13 : wr.cell? ⟨w.heap.size, 13, none⟩ = some (.int .i64 (ar : Nat)) := cell_at HR.out.var 13 rfl
      go_upto_if 39 with fail
      rw [HS2.out]
      go_cut [3] (fun v wx => v = .string ⟨(P2 ++ xar kd ar).toArray⟩ ∧ Hid (BSt w #[.int .i64 (kd : Nat), .string nm, .slice Ap pn cp, .int .i64 kt, .int .i64 nt, .string nmt, .slice At lt ct, .slice At' lt' ct', .int .i64 kv, .int .i64 nv, .string nmv, .slice Av lv cv, .slice Av' lv' cv', .int .i64 (ar : Nat), .slice Ac cn cc] wx))
      case first =>
        as_aux_lemma =>
        by_cases hk : kd = 3
        · have q3 : ((kd : Int) == 3) = true := by simp [hk]
          have HK := hide hk
          have har := HF.out.good.ar
          simp only at har
          have h5 : (10 : Nat) ^ 6 = 1000000 := by decide
          have KI := hide (rdigits_calls 5 ar wr (by rw [h5]; omega) (by omega))
          have hdl := digits_len 5 ar (by rw [h5]; omega)
          have HX : Hid ((⟨P2.toArray⟩ ++ ⟨(Lib.decDigits ar).toArray⟩ ++ ⟨#[32]⟩ : ByteArray) = ⟨(P2 ++ xar kd ar).toArray⟩) := by rw [xar, if_pos hk]; apply ByteArray.ext; simp
          generalize Lib.decDigits ar = DA at *
          clear hk har
          go_wp2_with (go_at_call 25; refine KI.out.mono ?_)
          intro e w2 h9
          first | (subst h9; intro hb2) | (obtain ⟨rfl, hb2⟩ := h9)
          have H2 := hide (HR.out.later hb2)
          clear hb2 KI
          go_wp2_with fail
          go_meet
          case rel => exact ⟨by rw [HX.out], H2.out⟩
        · have q3 : ((kd : Int) == 3) = false := by simp; omega
          have HX : Hid (P2 = P2 ++ xar kd ar) := by rw [xar, if_neg hk]; exact hide (by simp)
          clear hk
          go_wp2_with fail
          go_meet
          case rel => exact ⟨by rw [← HX.out], HR.out⟩
      case rest =>
      as_aux_lemma =>
      rename World => wC
      obtain ⟨hu, HC⟩ := hcut
      subst hu
      clear HR el e0 e2 e13 q
      have el := HC.out.lt
      have e3 : wC.cell? ⟨w.heap.size, 3, none⟩ = some (.int .i64 kt) := cell_at HC.out.var 3 rfl
      have e4 : wC.cell? ⟨w.heap.size, 4, none⟩ = some (.int .i64 nt) := cell_at HC.out.var 4 rfl
      have e5 : wC.cell? ⟨w.heap.size, 5, none⟩ = some (.string nmt) := cell_at HC.out.var 5 rfl
      have e6 : wC.cell? ⟨w.heap.size, 6, none⟩ = some (.slice At lt ct) := cell_at HC.out.var 6 rfl
      have e7 : wC.cell? ⟨w.heap.size, 7, none⟩ = some (.slice At' lt' ct') := cell_at HC.out.var 7 rfl
      obtain ⟨P3, hP3⟩ : ∃ P3, P3 = P2 ++ xar kd ar := ⟨_, rfl⟩
      have hl3 : P3.length = P2.length + (xar kd ar).length := by rw [hP3]; simp
      rw [← hP3]
      have HP3 := hide hP3
      have KT := hide (rprintT_calls wb wo wc D ty (.agg #[.int .i64 kt, .int .i64 nt, .string nmt, .slice At lt ct, .slice At' lt' ct']) wC HF.out.ty (HTy.out.on HC.out.old) (HW.out.of_blocks (HC.out.old.block 1 hwl.1) (HC.out.old.block wb hwl.2)) (by omega))
      have HT3 : Hid ((⟨P3.toArray⟩ ++ ⟨(textT D ty).toArray⟩ : ByteArray) = ⟨(P3 ++ textT D ty).toArray⟩) := bytes_append _ _
      obtain ⟨TT, hTT⟩ : ∃ TT, TT = textT D ty := ⟨_, rfl⟩
      rw [← hTT] at KT HT3 hlen HE
      clear hP3 hTT
      go_wp2_with (go_at_call 26; refine KT.out.mono ?_)
      intro e w2 h9
      first | (subst h9; intro hb2) | (obtain ⟨rfl, hb2⟩ := h9)
      have H2 := hide (HC.out.later hb2)
      clear hb2 KT el e3 e4 e5 e6 e7 HC
      have el := H2.out.lt
      have e0 : w2.cell? ⟨w.heap.size, 0, none⟩ = some (.int .i64 (kd : Nat)) := cell_at H2.out.var 0 rfl
      have e8 : w2.cell? ⟨w.heap.size, 8, none⟩ = some (.int .i64 kv) := cell_at H2.out.var 8 rfl
      have e9 : w2.cell? ⟨w.heap.size, 9, none⟩ = some (.int .i64 nv) := cell_at H2.out.var 9 rfl
      have e10 : w2.cell? ⟨w.heap.size, 10, none⟩ = some (.string nmv) := cell_at H2.out.var 10 rfl
      have e11 : w2.cell? ⟨w.heap.size, 11, none⟩ = some (.slice Av lv cv) := cell_at H2.out.var 11 rfl
      have e12 : w2.cell? ⟨w.heap.size, 12, none⟩ = some (.slice Av' lv' cv') := cell_at H2.out.var 12 rfl
      obtain ⟨P4, hP4⟩ : ∃ P4, P4 = P3 ++ TT := ⟨_, rfl⟩
      have hl4 : P4.length = P3.length + TT.length := by rw [hP4]; simp
      rw [← hP4] at HT3
      have HP4 := hide hP4
      clear hP4
      go_upto_if 53 with fail
      rw [HT3.out]
      go_cut [3] (fun v wx => v = .string ⟨(P4 ++ xvl D kd vl).toArray⟩ ∧ Hid (BSt w #[.int .i64 (kd : Nat), .string nm, .slice Ap pn cp, .int .i64 kt, .int .i64 nt, .string nmt, .slice At lt ct, .slice At' lt' ct', .int .i64 kv, .int .i64 nv, .string nmv, .slice Av lv cv, .slice Av' lv' cv', .int .i64 (ar : Nat), .slice Ac cn cc] wx))
      case first =>
        as_aux_lemma =>
        by_cases hk : kd = 2
        · have q3 : ((kd : Int) == 2) = true := by simp [hk]
          have HX : Hid ((⟨P4.toArray⟩ ++ ⟨#[32]⟩ ++ ⟨(textT D vl).toArray⟩ : ByteArray) = ⟨(P4 ++ xvl D kd vl).toArray⟩) := by rw [xvl, if_pos hk]; apply ByteArray.ext; simp
          have htl : (textT D vl).length ≤ 400000000 := by
            have : (xvl D kd vl).length = (textT D vl).length + 1 := by rw [xvl, if_pos hk]; simp
            omega
          have KT := hide (rprintT_calls wb wo wc D vl (.agg #[.int .i64 kv, .int .i64 nv, .string nmv, .slice Av lv cv, .slice Av' lv' cv']) w2 (HF.out.vl hk) (HVl.out.on H2.out.old) (HW.out.of_blocks (H2.out.old.block 1 hwl.1) (H2.out.old.block wb hwl.2)) (by omega))
          generalize textT D vl = TV at *
          clear hk
          go_wp2_with (go_at_call 26; refine KT.out.mono ?_)
          intro e w3 h9
          first | (subst h9; intro hb3) | (obtain ⟨rfl, hb3⟩ := h9)
          have H3 := hide (H2.out.later hb3)
          clear hb3 KT
          go_wp2_with fail
          go_meet
          case rel => exact ⟨by rw [HX.out], H3.out⟩
        · have q3 : ((kd : Int) == 2) = false := by simp; omega
          have HX : Hid (P4 = P4 ++ xvl D kd vl) := by rw [xvl, if_neg hk]; exact hide (by simp)
          clear hk
          go_wp2_with fail
          go_meet
          case rel => exact ⟨by rw [← HX.out], H2.out⟩
      case rest =>
      as_aux_lemma =>
      rename World => wD
      obtain ⟨hu, HD⟩ := hcut
      subst hu
      clear H2 el e0 e8 e9 e10 e11 e12
      obtain ⟨P5, hP5⟩ : ∃ P5, P5 = P4 ++ xvl D kd vl := ⟨_, rfl⟩
      have hl5 : P5.length = P4.length + (xvl D kd vl).length := by rw [hP5]; simp
      rw [← hP5]
      have HP5 := hide hP5
      clear hP5
      obtain ⟨SL, hSL⟩ : ∃ SL, SL = (spaced (ctext D) cs).length := ⟨_, rfl⟩
      have HSL : Hid (∀ k, (spaced (ctext D) (cs.take k)).length ≤ SL) := by rw [hSL]; exact spaced_le (ctext D) cs
      rw [← hSL] at hlen
      clear hSL
      go_wp2_with fail
      go_loopg [3, 5] cn (fun g s i wr => ∃ (k : Nat), k + g = cn ∧ i = .int .i64 k ∧ s = .string ⟨(P5 ++ spaced (ctext D) (cs.take k)).toArray⟩ ∧ Hid (BSt w #[.int .i64 (kd : Nat), .string nm, .slice Ap pn cp, .int .i64 kt, .int .i64 nt, .string nmt, .slice At lt ct, .slice At' lt' ct', .int .i64 kv, .int .i64 nv, .string nmv, .slice Av lv cv, .slice Av' lv' cv', .int .i64 (ar : Nat), .slice Ac cn cc] wr))
      case atStart => exact ⟨0, by omega, rfl, by simp [spaced], HD.out⟩
      case round =>
        clear HD
        obtain ⟨k, hkg, rfl, rfl, HR⟩ := hrel
        have el := HR.out.lt
        have e14 : wr.cell? ⟨w.heap.size, 14, none⟩ = some (.slice Ac cn cc) := cell_at HR.out.var 14 rfl
        have hj := HSL.out k
        by_cases hk : k < cn
        · have hkc : k < cs.length := by rw [← HCn.out]; exact hk
          obtain ⟨b1, x, rfl, -, h6, hct⟩ := cts_on HCs.out HR.out.old k hkc
          obtain ⟨kx, nx, nmx, Ax, lx, cx, Ax', lx', cx', rfl, hin⟩ := hct
          obtain ⟨u0, u1, u2, u3, u4, u5, he, c0, c1, c2, c3, c4, c5⟩ := h6
          injection he with he
          simp only [Array.mk.injEq, List.cons.injEq, and_true] at he
          obtain ⟨rfl, rfl, rfl, rfl, rfl, rfl⟩ := he
          have hbw : b1 < wr.heap.size := World.block_lt_of_cell? _ _ c0
          have q : decide ((k : Int) < (cn : Int)) = true := by simp; omega
          have hst := spaced_succ (ctext D) cs k hkc
          have hj1 := HSL.out (k + 1)
          rw [hst] at hj1
          simp only [List.length_append, List.length_cons, List.length_nil] at hj1
          have hctl : (ctext D cs[k]).length = 4 + cword.data.toList.length + cs[k].1.data.toList.length + (textT D cs[k].2).length := by simp [ctext, inB, joinS, spaced]; omega
          have hql : cs[k].1.data.toList.length = cs[k].1.size := Array.length_toList
          have HNx : Hid ((⟨(P5 ++ spaced (ctext D) (cs.take k)).toArray⟩ ++ ⟨#[32, 40, 99, 116, 111, 114, 32]⟩ ++ cs[k].1 ++ ⟨#[32]⟩ ++ ⟨(textT D cs[k].2).toArray⟩ ++ ⟨#[41]⟩ : ByteArray) = ⟨(P5 ++ spaced (ctext D) (cs.take (k + 1))).toArray⟩) := by
            rw [hst]
            apply ByteArray.ext
            simp [ctext, inB, joinS, spaced, cword]
          obtain ⟨qn, hqn⟩ : ∃ qn, qn = cs[k].1 := ⟨_, rfl⟩
          obtain ⟨TX, hTX⟩ : ∃ TX, TX = textT D cs[k].2 := ⟨_, rfl⟩
          rw [← hqn] at c0 hql HNx
          rw [← hqn, ← hTX, hql] at hctl
          rw [← hTX] at HNx
          have hsz : (P5 ++ spaced (ctext D) (cs.take k)).length = P5.length + (spaced (ctext D) (cs.take k)).length := List.length_append
          have KT : Hid (∀ W, Below wr.heap.size wr W → Calls Tryz.prog 26 #[.agg #[.int .i64 kx, .int .i64 nx, .string nmx, .slice Ax lx cx, .slice Ax' lx' cx']] W fun e w' => e = .returned (.string ⟨TX.toArray⟩) ∧ Hid (Below wr.heap.size wr w') ∧ w'.cell? ⟨w.heap.size, 14, none⟩ = some (.slice (some ⟨b1, 0, none⟩) cn cc) ∧ w'.cell? ⟨b1, k * 6, none⟩ = some (.string qn) ∧ w'.cell? ⟨b1, k * 6 + 1, none⟩ = some (.int .i64 kx) ∧ w'.cell? ⟨b1, k * 6 + 2, none⟩ = some (.int .i64 nx) ∧ w'.cell? ⟨b1, k * 6 + 3, none⟩ = some (.string nmx) ∧ w'.cell? ⟨b1, k * 6 + 4, none⟩ = some (.slice Ax lx cx) ∧ w'.cell? ⟨b1, k * 6 + 5, none⟩ = some (.slice Ax' lx' cx')) := fun W hW => by
            have hold := HR.out.old.trans (hW.mono HR.out.old.size)
            have h1 := rprintT_calls wb wo wc D cs[k].2 _ W (HF.out.cs cs[k] (List.getElem_mem hkc)).1 (hin.on hW) (HW.out.of_blocks (hold.block 1 hwl.1) (hold.block wb hwl.2)) (by rw [← hTX]; omega)
            rw [← hTX] at h1
            refine h1.mono ?_
            rintro e w' ⟨rfl, h'⟩
            have hW' : Below wr.heap.size wr w' := hW.trans (h'.mono hW.size)
            exact ⟨rfl, hW', cell_later hW' e14, cell_later hW' c0, cell_later hW' c1, cell_later hW' c2, cell_later hW' c3, cell_later hW' c4, cell_later hW' c5⟩
          have hjk : (spaced (ctext D) (cs.take k)).length + qn.size + TX.length ≤ SL := by omega
          generalize P5 ++ spaced (ctext D) (cs.take k) = PX at *
          generalize (spaced (ctext D) (cs.take k)).length = SK at *
          have hb9 : PX.length + qn.size + TX.length ≤ 400000000 := by omega
          have t1 : ¬ 9223372036854775807 < PX.length + 7 := by omega
          have t2 : ¬ 9223372036854775807 < PX.length + 7 + qn.size := by omega
          have t3 : ¬ 9223372036854775807 < PX.length + 7 + qn.size + 1 := by omega
          have t4 : ¬ 9223372036854775807 < PX.length + 7 + qn.size + 1 + TX.length := by omega
          have t5 : ¬ 9223372036854775807 < PX.length + 7 + qn.size + 1 + TX.length + 1 := by omega
          clear hsz hl1 hl2 hl3 hl4 hl5 hjk hlen
          clear hin hst hj1 hctl hql hqn hTX HCs
          go_wp2_with fail
          go_region_held3 (fun w' => w'.cell? ⟨w.heap.size, 14, none⟩ = some (.slice (some ⟨b1, 0, none⟩) cn cc) ∧ w'.cell? ⟨b1, k * 6, none⟩ = some (.string qn) ∧ w'.cell? ⟨b1, k * 6 + 1, none⟩ = some (.int .i64 kx) ∧ w'.cell? ⟨b1, k * 6 + 2, none⟩ = some (.int .i64 nx) ∧ w'.cell? ⟨b1, k * 6 + 3, none⟩ = some (.string nmx) ∧ w'.cell? ⟨b1, k * 6 + 4, none⟩ = some (.slice Ax lx cx) ∧ w'.cell? ⟨b1, k * 6 + 5, none⟩ = some (.slice Ax' lx' cx')) (go_keep) (first
            | (go_at_call 26; refine (KT.out _ ?_).mono ?_; (repeat' (first | exact Below.refl _ _ | refine Below.drew ?_)); rintro e wy ⟨rfl, HY, e14, c0, c1, c2, c3, c4, c5⟩))
          all_goals
            go_wp2_with fail
            go_roundg (cn - (k + 1))
            case measure => omega
            case rel => exact ⟨k + 1, by omega, by go_num, by rw [HNx.out], HR.out.later HY.out⟩
        · have hke : cn = k := by omega
          subst hke
          have q : decide ((cn : Int) < (cn : Int)) = false := by simp
          rw [HCn.out, List.take_length] at hj ⊢
          have hsz : (P5 ++ spaced (ctext D) cs).length = P5.length + (spaced (ctext D) cs).length := List.length_append
          have HZ : Hid ((⟨(P5 ++ spaced (ctext D) cs).toArray⟩ ++ ⟨#[41]⟩ : ByteArray) = ⟨(dtext D ⟨kd, nm, ps, ty, vl, ar, cs⟩).toArray⟩) := by
            rw [HE.out, HP5.out, HP4.out, HP3.out, HP2.out, ← HPJ.out, HJ.out]
            apply ByteArray.ext
            simp
          rw [← HCn.out]
          generalize P5 ++ spaced (ctext D) cs = PX at *
          go_wp2_with fail
          go_ret
          exact ⟨ret_str HZ.out, HR.out.old⟩

set_option maxRecDepth 100000 in
set_option maxHeartbeats 16000000 in
theorem rprintFile_calls (wb wo wc D : Nat) (ds : List Dc) (A : Option Addr) (c : Nat) (w : World) (hw : WordsAt w wb wo wc) (hf : ∀ d ∈ ds, FitD D d) (hv : DsV w (fun _ => True) D ds A) (hl : (ftext D ds).length ≤ 400000000) (hn : ds.length ≤ 200000) :
    Calls Tryz.prog 9 #[.slice A ds.length c] w fun e w' => e = .returned (.string ⟨(ftext D ds).toArray⟩) ∧ Below w.heap.size w w' := by
  have hwl := hw.lt
  have HW := hide hw
  have HF := hide hf
  have HV := hide hv
  have HL := hide hl
  obtain ⟨n, hnn⟩ : ∃ n : Nat, n = ds.length := ⟨_, rfl⟩
  have HNn := hide hnn
  rw [← hnn] at hn ⊢
  clear hw hf hv hl hnn
  go_enter Tryz.func9, Tryz.ntmps9
  go_wp2_with fail
  go_loopg [3, 4] n (fun g s i wr => ∃ k : Nat, k + g = n ∧ i = .int .i64 k ∧ s = .string ⟨(ftext D (ds.take k)).toArray⟩ ∧ Hid (Below w.heap.size w wr))
  case atStart => exact ⟨0, by omega, rfl, by simp [ftext], Below.refl _ _⟩
  case round =>
    obtain ⟨k, hkg, rfl, rfl, HR⟩ := hrel
    by_cases hk : k < n
    · have hkd : k < ds.length := by rw [← HNn.out]; exact hk
      have hV : DsV wr (fun _ => True) D ds A := HV.out.keep fun b hb _ => ⟨trivial, HR.out.block b hb⟩
      obtain ⟨g, l, rfl, hgl, hrg, hll, hsz, hone, hdv⟩ := row15 hV k hkd
      have q : decide ((k : Int) < (n : Int)) = true := by simp; omega
      have HRg := hide hrg
      have HSz := hide hsz
      have KP := hide (rprintDecl_calls wb wo wc D ds[k] (.agg l.toArray) wr (HW.out.of_blocks (HR.out.block 1 hwl.1) (HR.out.block wb hwl.2)) (HF.out _ (List.getElem_mem hkd)) hdv)
      have hfk : (ftext D (ds.take k)).length + (dtext D ds[k]).length + 1 ≤ 400000000 := by
        have h1 := HL.out
        have e : ftext D ds = ftext D (ds.take k) ++ (dtext D ds[k] ++ [10]) ++ ftext D (ds.drop (k + 1)) := by
          have e2 : ds = ds.take k ++ (ds[k] :: ds.drop (k + 1)) := by rw [← List.drop_eq_getElem_cons hkd, List.take_append_drop]
          conv => lhs; rw [e2]
          rw [ftext_app, ftext_cons]
          simp only [List.append_assoc]
        rw [e] at h1
        simp only [List.length_append, List.length_cons, List.length_nil] at h1
        omega
      have HNk : Hid ((⟨(ftext D (ds.take k)).toArray⟩ ++ ⟨(dtext D ds[k]).toArray⟩ ++ ⟨#[10]⟩ : ByteArray) = ⟨(ftext D (ds.take (k + 1))).toArray⟩) := by
        rw [List.take_succ_eq_append_getElem hkd, ftext_app, ftext_cons]
        apply ByteArray.ext
        simp [ftext]
      generalize dtext D ds[k] = X at *
      generalize ftext D (ds.take k) = acc at *
      clear hrg hsz hone hdv hV
      go_wp2_with (first | (refine wpList_load_mid rfl 46 _ rfl g (k * 15) rfl l _ HRg.out Tryz.underlying46 rfl HSz.out ?_) | (go_at_call 12; refine KP.out.mono ?_))
      intro e w2 h9
      first | (subst h9; intro hb2) | (obtain ⟨rfl, hb2⟩ := h9)
      have H2 : Hid (Below w.heap.size w w2) := HR.out.trans (hb2.mono HR.out.size)
      clear hb2 KP HRg HSz
      go_wp2_with fail
      go_roundg (n - (k + 1))
      case measure => omega
      case rel => exact ⟨k + 1, by omega, by go_num, by rw [HNk.out], H2.out⟩
    · have hke : n = k := by omega
      subst hke
      have q : decide ((n : Int) < (n : Int)) = false := by simp
      have HE : Hid (ds.take n = ds) := by rw [HNn.out]; exact hide List.take_length
      go_wp2_with fail
      go_ret
      exact ⟨ret_str (by rw [HE.out]), HR.out⟩

end Go.Proofs.YtjlibnijecdgcaaGreatDoor
