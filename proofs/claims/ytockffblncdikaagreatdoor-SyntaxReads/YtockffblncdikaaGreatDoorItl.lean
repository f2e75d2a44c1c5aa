/- The library's contract of a function, laid at this program's numbers: plain text. -/
import Derived.Test.YtockffblncdikaaGreatDoorAd
import Derived.Shelf.Strconv.AtoiAll
import Derived.Shelf.Strconv.Itoa3
namespace Go.Proofs.YtockffblncdikaaGreatDoor
open Go.RowKit
set_option maxRecDepth 100000
set_option maxHeartbeats 16000000
theorem is_calls (k a : Int) (t q : ByteArray) (w : World) : Calls Tryz.prog 68 #[.agg #[.int .i64 k, .int .i64 a, .string t], .string q] w fun e w' => e = .returned (.bool (decide (k = 3) && decide (t = q))) /\ Below w.heap.size w w' := by
 have HB : Hid (Below w.heap.size w (w.alloc (.cells #[.int .i64 k, .int .i64 a, .string t] 46))) := (Below.refl _ _).alloc (Nat.le_refl _) _
 by_cases hk : k = 3
 . subst hk
   by_cases ht : t = q
   . have hb := sameStr_pos ht
     rw [show decide (t = q) = true from by simp [ht]]; clear ht
     go_enter Tryz.func68, Tryz.ntmps68
     go_wp2_with fail
     go_ret; exact ⟨rfl, HB.out⟩
   . have hb := sameStr_neg ht
     rw [show decide (t = q) = false from by simp [ht]]; clear ht
     go_enter Tryz.func68, Tryz.ntmps68
     go_wp2_with fail
     go_ret; exact ⟨rfl, HB.out⟩
 . have hk' : (k == 3) = false := by simpa using hk
   rw [show decide (k = 3) = false from by simp [hk], Bool.false_and]; clear hk
   go_enter Tryz.func68, Tryz.ntmps68
   go_wp2_with fail
   go_ret; exact ⟨rfl, HB.out⟩
theorem PT.is {tk : LTok} {e k : Nat} {t : ByteArray} {r : Nat} (h : PT tk e k t r) (h4 : tk.kd <= 4) (q : ByteArray) : (decide ((k : Int) = 3) && decide (t = q)) = (tk.kd == 3 && decide (tk.t = q)) := by
 by_cases h3 : tk.kd <= 3
 . obtain ⟨rfl, rfl, _⟩ := h.good h3
   congr 1
   rw [Bool.eq_iff_iff]; simp; omega
 . obtain ⟨h5, _⟩ := h.bad (by omega)
   rw [show decide ((k : Int) = 3) = false from by simp; omega, show (tk.kd == 3) = false from by simp; omega]
   rfl
theorem FS.Ok.kd {s : ByteArray} {st : FS} (h : st.Ok s) : st.t.kd <= 4 := by obtain ⟨p, h⟩ := h.tok; exact h.kd
theorem PT.name {tk : LTok} {e k : Nat} {t : ByteArray} {r : Nat} (h : PT tk e k t r) (h4 : tk.kd <= 4) : ((k : Int) != 1) = !(tk.kd == 1) := by
 by_cases h3 : tk.kd <= 3
 . obtain ⟨rfl, _, _⟩ := h.good h3
   rw [Bool.eq_iff_iff]; simp; omega
 . obtain ⟨h5, _⟩ := h.bad (by omega)
   rw [Bool.eq_iff_iff]; simp; omega
section
variable (rb : Nat) (mv : Value) (s : ByteArray) (st : FS) (w : World) (h : RdS w rb mv s st) (hs : s.size <= 200000) (ho : st.Ok s) (hg : SgT w) (hb : rb ≠ 1)
include h hs ho hg hb
theorem took_calls (q : ByteArray) : Calls Tryz.prog 38 #[.pointer (some ⟨rb, 0, none⟩), .string q] w fun e w' => e = .returned (.bool (st.is q)) /\ RdS w' rb mv s (if st.is q = true then st.step s else st) /\ Touched w rb w' := by
 have H := hide h; obtain ⟨h0, c, k, t, r, h, hp, -⟩ := h
 have hq : st.is q = (decide ((k : Int) = 3) && decide (t = q)) := by
  rw [hp.is ho.kd]; unfold FS.is; rw [h0]
  rfl
 have c1 := h.c1; have c2 := h.c2; have c3 := h.c3; have KI := hide (is_calls (k : Nat) (st.t.at_ : Nat) t q w); rw [<- hq] at KI; clear hq
 have HK : Hid (st.is q = true -> st.t.kd <= 3) := fun e => by have := FS.is_kd e; omega
 have HO := hide ho; have HG := hide hg; clear h hp ho hg; generalize st.is q = bq at *
 cases bq with
 | false =>
   rw [if_neg (by simp)]
   go_enter Tryz.func38, Tryz.ntmps38
   go_wp2_with (go_at_call 68; refine KI.out.mono ?_)
   first | (intro e W1 he hb1; subst he) | (rintro e W1 ⟨rfl, hb1⟩)
   have HB := hide hb1; clear hb1
   go_wp2_with fail
   go_ret; exact ⟨rfl, H.out.later HB.out, Touched.of_below HB.out⟩
 | true =>
   rw [if_pos rfl]
   go_enter Tryz.func38, Tryz.ntmps38
   go_wp2_with (go_at_call 68; refine KI.out.mono ?_)
   first | (intro e W1 he hb1; subst he) | (rintro e W1 ⟨rfl, hb1⟩)
   have KA := hide (adv_calls rb mv s st W1 (H.out.later hb1) hs HO.out (HG.out.later hb1) hb (HK.out (by simp))); have HB := hide hb1; clear hb1
   go_wp2_with (go_at_call 24; refine KA.out.mono ?_)
   rintro e W2 ⟨rfl, h2, h3⟩; have H2 := hide h2; have H3 := hide h3; clear h2 h3
   go_wp2_with fail
   go_ret; exact ⟨rfl, H2.out, (Touched.of_below HB.out).trans H3.out⟩
theorem expect_calls (q : ByteArray) : Calls Tryz.prog 29 #[.pointer (some ⟨rb, 0, none⟩), .string q] w fun e w' => RP w rb mv s (st.must s q) (fun e _ => e = .returned (.tuple #[])) e w' := by
 have KT := hide (took_calls rb mv s st w h hs ho hg hb q); have hc := h.code
 by_cases hq : st.is q = true
 . have HM : Hid (st.must s q = st.step s) := if_pos hq
   have HC : Hid ((st.step s).code = 0) := hide (by unfold FS.step; rw [if_pos hc]; exact hc); rw [HM.out]; rw [hq, if_pos rfl] at KT; clear h ho hg hq
   go_enter Tryz.func29, Tryz.ntmps29
   go_wp2_with (go_at_call 38; refine KT.out.mono ?_)
   rintro e W1 ⟨rfl, h2, h3⟩; have H2 := hide h2; have H3 := hide h3; clear h2 h3
   go_wp2_with fail
   go_end0; exact .inl ⟨HC.out, rfl, H2.out, H3.out⟩
 . have HM : Hid (st.must s q = { st with code := 1, fat := st.t.at_ }) := hide (by unfold FS.must FS.fail; rw [if_neg hq, if_pos hc])
   rw [HM.out]; rw [show st.is q = false from by simpa using hq, if_neg (by simp)] at KT; clear h ho hg hq
   go_enter Tryz.func29, Tryz.ntmps29
   go_wp2_with (go_at_call 38; refine KT.out.mono ?_)
   rintro e W1 ⟨rfl, h2, h3⟩; have KR := hide (refuse_calls rb mv s st W1 h2); have H3 := hide h3; clear h2 h3
   go_wp2_with (go_at_call 39; refine KR.out.mono ?_)
   intro e W2 h4; have HF : Hid (RP w rb mv s { st with code := 1, fat := st.t.at_ } (fun e _ => e = .returned (.tuple #[])) e W2) := .inr ⟨by simp, h4.from H3.out⟩; obtain ⟨fb, rfl, -⟩ := h4
   go_wp2_with fail
   exact ⟨rfl, HF.out⟩
theorem take_calls (h3 : st.t.kd <= 3) : Calls Tryz.prog 40 #[.pointer (some ⟨rb, 0, none⟩)] w fun e w' => e = .returned (.agg #[.int .i64 (st.t.kd : Nat), .int .i64 (st.t.at_ : Nat), .string st.t.t]) /\ RdS w' rb mv s (st.step s) /\ Touched w rb w' := by
 have H := hide h; obtain ⟨h0, c, k, t, r, h, hp, -⟩ := h; have c1 := h.c1; have c2 := h.c2; have c3 := h.c3; have hlt := h.lt; obtain ⟨rfl, rfl, rfl⟩ := hp.good h3
 have HB : Hid (Below w.heap.size w ((w.alloc (.cells #[.int .i64 0, .int .i64 0, .string ⟨#[]⟩] 46)).alloc (.cells #[.int .i64 (st.t.kd : Nat), .int .i64 (st.t.at_ : Nat), .string st.t.t] 46))) := ((Below.refl _ _).alloc (Nat.le_refl _) _).alloc (by simp) _
 have HO := hide ho; have HG := hide hg; have KA := hide (adv_calls rb mv s st _ (H.out.later HB.out) hs HO.out (HG.out.later HB.out) hb h3); clear h hp ho hg h3; generalize st.t.kd = kd at *
 generalize st.t.at_ = a at *; generalize st.t.t = t at *
 go_enter Tryz.func40, Tryz.ntmps40
 go_wp2_with (go_at_call 24; refine KA.out.mono ?_)
 rintro e w2 ⟨rfl, h2, h3⟩
 have hres : w2.heap[w.heap.size]? = some (.cells #[.int .i64 0, .int .i64 0, .string ⟨#[]⟩] 46 (0, 0)) := (h3.at (by simp; omega) (by omega)).trans ((Below.heap_alloc _ _ _ (by simp)).trans (heap_alloc_new _ _))
 have hvar : w2.heap[w.heap.size + 1]? = some (.cells #[.int .i64 (kd : Nat), .int .i64 (a : Nat), .string t] 46 (0, 0)) := (h3.at (by simp) (by omega)).trans (by have := heap_alloc_new (w.alloc (.cells #[.int .i64 0, .int .i64 0, .string ⟨#[]⟩] 46)) (.cells #[.int .i64 (kd : Nat), .int .i64 (a : Nat), .string t] 46); simpa using this)
 have o0 : w2.cell? ⟨w.heap.size, 0, none⟩ = some (.int .i64 0) := cell_of hres 0 rfl; have o1 : w2.cell? ⟨w.heap.size, 1, none⟩ = some (.int .i64 0) := cell_of hres 1 rfl
 have o2 : w2.cell? ⟨w.heap.size, 2, none⟩ = some (.string ⟨#[]⟩) := cell_of hres 2 rfl; have of_ : ∀ i, w2.frozen? ⟨w.heap.size, i, none⟩ = false := fun i => frozen_of hres i
 have v0 : w2.cell? ⟨w.heap.size + 1, 0, none⟩ = some (.int .i64 (kd : Nat)) := cell_of hvar 0 rfl; have v1 : w2.cell? ⟨w.heap.size + 1, 1, none⟩ = some (.int .i64 (a : Nat)) := cell_of hvar 1 rfl
 have v2 : w2.cell? ⟨w.heap.size + 1, 2, none⟩ = some (.string t) := cell_of hvar 2 rfl; have ol : w.heap.size < w2.heap.size := (Array.getElem?_eq_some_iff.1 hres).1; have H2 := hide h2
 have H3 := hide ((Touched.of_below HB.out).trans h3); clear h2 h3 hres hvar KA HB
 go_wp2_with fail
 refine bodyPost_ret (v := .agg #[.int .i64 (kd : Nat), .int .i64 (a : Nat), .string t]) (by simp [results, Tryz.results40, go_sem, o0, o1, o2]) rfl ?_
 refine ⟨rfl, H2.out.of_block ?_, ((H3.out.setNew (a := ⟨w.heap.size, 0, none⟩) (Nat.le_refl _) _).setNew (a := ⟨w.heap.size, 1, none⟩) (Nat.le_refl _) _).setNew (a := ⟨w.heap.size, 2, none⟩) (Nat.le_refl _) _⟩
 rw [Below.heap_setCell _ _ _ _ (by show rb ≠ w.heap.size; omega), Below.heap_setCell _ _ _ _ (by show rb ≠ w.heap.size; omega), Below.heap_setCell _ _ _ _ (by show rb ≠ w.heap.size; omega)]
theorem name_calls : Calls Tryz.prog 26 #[.pointer (some ⟨rb, 0, none⟩)] w fun e w' => RP w rb mv s (st.name s).2 (fun e _ => e = .returned (.agg #[.int .i64 1, .int .i64 (st.t.at_ : Nat), .string (st.name s).1])) e w' := by
 have HB : Hid (Below w.heap.size w (w.alloc (.cells #[.int .i64 0, .int .i64 0, .string ⟨#[]⟩] 46))) := (Below.refl _ _).alloc (Nat.le_refl _) _; have H := hide (h.later HB.out); have hc := h.code; have hl := h.lt
 obtain ⟨h0, c, k, t, r, h, hp, -⟩ := h; have c1 := h.c1; have hk := hp.name ho.kd
 by_cases hn : st.kin 1 = true
 . have hkd := (FS.kin_kd hn).2
   have HN : Hid (st.name s = (st.t.t, st.step s)) := if_pos hn; have HC : Hid ((st.step s).code = 0) := hide (by unfold FS.step; rw [if_pos hc]; exact hc); rw [HN.out]
   have KT := hide (take_calls rb mv s st _ H.out hs ho (hg.later HB.out) hb (by omega)); rw [hkd] at KT hk; have hk' : ((k : Int) != 1) = false := by rw [hk]; rfl
   clear h hp ho hg hn hk hkd; generalize st.t.t = t' at *; generalize st.t.at_ = a at *
   go_enter Tryz.func26, Tryz.ntmps26
   go_wp2_with (go_at_call 40; refine KT.out.mono ?_)
   rintro e w2 ⟨rfl, h2, h3⟩; have hres : w2.heap[w.heap.size]? = some (.cells #[.int .i64 0, .int .i64 0, .string ⟨#[]⟩] 46 (0, 0)) := (h3.at (by simp) (by omega)).trans (heap_alloc_new _ _)
   have o0 : w2.cell? ⟨w.heap.size, 0, none⟩ = some (.int .i64 0) := cell_of hres 0 rfl; have o1 : w2.cell? ⟨w.heap.size, 1, none⟩ = some (.int .i64 0) := cell_of hres 1 rfl
   have o2 : w2.cell? ⟨w.heap.size, 2, none⟩ = some (.string ⟨#[]⟩) := cell_of hres 2 rfl; have of_ : ∀ i, w2.frozen? ⟨w.heap.size, i, none⟩ = false := fun i => frozen_of hres i
   have ol : w.heap.size < w2.heap.size := (Array.getElem?_eq_some_iff.1 hres).1; have H2 := hide h2; have H3 := hide ((Touched.of_below HB.out).trans h3); clear h2 h3 hres KT HB
   go_wp2_with fail
   refine bodyPost_ret (v := .agg #[.int .i64 1, .int .i64 (a : Nat), .string t']) (by simp [results, Tryz.results26, go_sem, o0, o1, o2]) rfl ?_
   refine .inl ⟨HC.out, rfl, H2.out.of_block ?_, ((H3.out.setNew (a := ⟨w.heap.size, 0, none⟩) (Nat.le_refl _) _).setNew (a := ⟨w.heap.size, 1, none⟩) (Nat.le_refl _) _).setNew (a := ⟨w.heap.size, 2, none⟩) (Nat.le_refl _) _⟩
   rw [Below.heap_setCell _ _ _ _ (by show rb ≠ w.heap.size; omega), Below.heap_setCell _ _ _ _ (by show rb ≠ w.heap.size; omega), Below.heap_setCell _ _ _ _ (by show rb ≠ w.heap.size; omega)]
 . have hkd : (st.t.kd == 1) = false := by
    cases e : (st.t.kd == 1)
    . rfl
    . exact absurd (by unfold FS.kin; rw [hc, e]; rfl) hn
   have HN : Hid (st.name s = (⟨#[]⟩, { st with code := 1, fat := st.t.at_ })) := hide (by unfold FS.name FS.fail; rw [if_neg hn, if_pos hc]); rw [HN.out]; have hk' : ((k : Int) != 1) = true := by rw [hk, hkd]; rfl
   have KR := hide (refuse_calls rb mv s st _ H.out); clear h hp ho hg hn hk hkd
   go_enter Tryz.func26, Tryz.ntmps26
   go_wp2_with (go_at_call 39; refine KR.out.mono ?_)
   intro e W2 h4
   have HF : Hid (RP w rb mv s { st with code := 1, fat := st.t.at_ } (fun e _ => e = .returned (.agg #[.int .i64 1, .int .i64 (st.t.at_ : Nat), .string ⟨#[]⟩])) e W2) := .inr ⟨by simp, h4.from (Touched.of_below HB.out)⟩
   obtain ⟨fb, rfl, -⟩ := h4
   go_wp2_with fail
   exact ⟨rfl, HF.out⟩
end
end Go.Proofs.YtockffblncdikaaGreatDoor
namespace Go.Proofs.YtockffblncdikaaGreatDoor
open Go.RowKit Go.Shelf
set_option maxRecDepth 100000
set_option maxHeartbeats 16000000
def atLays_ren : Go.Shelf.Ren := ⟨fun | 0 => 0 | 1 => 1 | 2 => 2 | 99 => 61 | 129 => 141 | 137 => 83 | 171 => 101 | 172 => 110 | 205 => 139 | 206 => 82 | 217 => 106 | 243 => 114 | 244 => 119 | 245 => 120 | 246 => 122 | 247 => 125 | 266 => 115 | 279 => 126 | 280 => 127 | 281 => 128 | 282 => 129 | 283 => 130 | 284 => 131 | 285 => 132 | 286 => 133 | 287 => 137 | 316 => 138 | 317 => 140 | 318 => 142 | 319 => 143 | 320 => 144 | 321 => 147 | 322 => 148 | 337 => 149 | 338 => 150 | 347 => 151 | 348 => 152 | 349 => 153 | 350 => 154 | 351 => 155 | 352 => 156 | 353 => 157 | 354 => 158 | 355 => 159 | 356 => 160 | 357 => 161 | 358 => 162 | 359 => 163 | 360 => 164 | 361 => 165 | 363 => 170 | 364 => 168 | 365 => 169 | 366 => 171 | 367 => 182 | n => n,
 fun | 0 => 0 | 1 => 1 | 2 => 2 | 3 => 3 | 4 => 4 | 5 => 5 | 6 => 6 | 7 => 7 | 8 => 8 | 9 => 9 | 10 => 10 | 11 => 11 | 12 => 12 | 13 => 13 | 14 => 14 | 15 => 15 | 16 => 16 | 17 => 17 | 18 => 18 | 19 => 19 | 20 => 20 | 21 => 21 | 22 => 120 | 31 => 54 | 37 => 69 | 41 => 119 | 46 => 191 | 47 => 201 | 51 => 198 | 52 => 208 | 53 => 183 | 54 => 184 | 55 => 142 | 69 => 192 | 73 => 33 | 74 => 24 | 75 => 25 | 76 => 140 | 77 => 141 | 80 => 40 | 81 => 78 | 83 => 165 | 84 => 173 | 85 => 177 | 86 => 178 | 103 => 121 | 104 => 97 | 108 => 195 | 111 => 200 | 114 => 150 | 127 => 92 | 128 => 172 | 143 => 205 | 144 => 206 | 145 => 207 | 164 => 116 | 167 => 176 | 168 => 179 | 169 => 180 | 170 => 181 | 171 => 182 | 172 => 185 | 173 => 186 | 174 => 187 | 175 => 189 | 176 => 190 | 209 => 193 | 210 => 194 | 211 => 196 | 212 => 197 | 213 => 199 | 214 => 204 | 232 => 209 | 233 => 210 | 238 => 211 | 239 => 212 | 240 => 213 | 241 => 214 | 242 => 215 | 243 => 216 | 244 => 217 | 245 => 218 | 246 => 219 | 247 => 220 | 248 => 221 | 249 => 222 | n => n,
 fun | 1 => 2 | 15 => 4 | 16 => 5 | 17 => 6 | 18 => 7 | 19 => 8 | n => n⟩
theorem atLays : Go.Proofs.LaysC.n172 Tryz.prog atLays_ren := {
 mixed := by kernel_rfl
 f129 := Tryz.func141.trans (congrArg some (by kernel_rfl))
 f171 := Tryz.func101.trans (congrArg some (by kernel_rfl))
 f172 := Tryz.func110.trans (congrArg some (by kernel_rfl))
 f205 := Tryz.func139.trans (congrArg some (by kernel_rfl))
 f243 := Tryz.func114.trans (congrArg some (by kernel_rfl))
 f244 := Tryz.func119.trans (congrArg some (by kernel_rfl))
 f245 := Tryz.func120.trans (congrArg some (by kernel_rfl))
 f246 := Tryz.func122.trans (congrArg some (by kernel_rfl))
 f247 := Tryz.func125.trans (congrArg some (by kernel_rfl))
 f279 := Tryz.func126.trans (congrArg some (by kernel_rfl))
 f280 := Tryz.func127.trans (congrArg some (by kernel_rfl))
 f281 := Tryz.func128.trans (congrArg some (by kernel_rfl))
 f282 := Tryz.func129.trans (congrArg some (by kernel_rfl))
 f283 := Tryz.func130.trans (congrArg some (by kernel_rfl))
 f284 := Tryz.func131.trans (congrArg some (by kernel_rfl))
 f285 := Tryz.func132.trans (congrArg some (by kernel_rfl))
 f286 := Tryz.func133.trans (congrArg some (by kernel_rfl))
 f287 := Tryz.func137.trans (congrArg some (by kernel_rfl))
 f316 := Tryz.func138.trans (congrArg some (by kernel_rfl))
 f317 := Tryz.func140.trans (congrArg some (by kernel_rfl))
 f318 := Tryz.func142.trans (congrArg some (by kernel_rfl))
 f319 := Tryz.func143.trans (congrArg some (by kernel_rfl))
 f320 := Tryz.func144.trans (congrArg some (by kernel_rfl))
 f321 := Tryz.func147.trans (congrArg some (by kernel_rfl))
 f322 := Tryz.func148.trans (congrArg some (by kernel_rfl))
 f337 := Tryz.func149.trans (congrArg some (by kernel_rfl))
 f338 := Tryz.func150.trans (congrArg some (by kernel_rfl))
 t0 := Tryz.underlying0
 a0 := Tryz.isAgg0
 z0 := Tryz.sizeOf0
 v0 := Tryz.zeroValue0
 t2 := Tryz.underlying2
 a2 := Tryz.isAgg2
 z2 := Tryz.sizeOf2
 v2 := Tryz.zeroValue2
 t3 := Tryz.underlying3
 a3 := Tryz.isAgg3
 z3 := Tryz.sizeOf3
 v3 := Tryz.zeroValue3
 t4 := Tryz.underlying4
 a4 := Tryz.isAgg4
 z4 := Tryz.sizeOf4
 v4 := Tryz.zeroValue4
 t5 := Tryz.underlying5
 a5 := Tryz.isAgg5
 z5 := Tryz.sizeOf5
 v5 := Tryz.zeroValue5
 t9 := Tryz.underlying9
 a9 := Tryz.isAgg9
 z9 := Tryz.sizeOf9
 v9 := Tryz.zeroValue9
 t20 := Tryz.underlying20
 a20 := Tryz.isAgg20
 z20 := Tryz.sizeOf20
 v20 := Tryz.zeroValue20
 t21 := Tryz.underlying21
 a21 := Tryz.isAgg21
 z21 := Tryz.sizeOf21
 v21 := Tryz.zeroValue21
 t37 := Tryz.underlying69
 a37 := Tryz.isAgg69
 z37 := Tryz.sizeOf69
 v37 := Tryz.zeroValue69
 t46 := Tryz.underlying191
 a46 := Tryz.isAgg191
 z46 := Tryz.sizeOf191
 v46 := Tryz.zeroValue191
 t51 := Tryz.underlying198
 a51 := Tryz.isAgg198
 z51 := Tryz.sizeOf198
 v51 := Tryz.zeroValue198
 t53 := Tryz.underlying183
 a53 := Tryz.isAgg183
 z53 := Tryz.sizeOf183
 v53 := Tryz.zeroValue183
 t75 := Tryz.underlying25
 a75 := Tryz.isAgg25
 z75 := Tryz.sizeOf25
 v75 := Tryz.zeroValue25
 t76 := Tryz.underlying140
 a76 := Tryz.isAgg140
 z76 := Tryz.sizeOf140
 v76 := Tryz.zeroValue140
 t85 := Tryz.underlying177
 a85 := Tryz.isAgg177
 z85 := Tryz.sizeOf177
 v85 := Tryz.zeroValue177
 t127 := Tryz.underlying92
 a127 := Tryz.isAgg92
 z127 := Tryz.sizeOf92
 v127 := Tryz.zeroValue92
 t143 := Tryz.underlying205
 a143 := Tryz.isAgg205
 z143 := Tryz.sizeOf205
 v143 := Tryz.zeroValue205
 t145 := Tryz.underlying207
 a145 := Tryz.isAgg207
 z145 := Tryz.sizeOf207
 v145 := Tryz.zeroValue207
 t167 := Tryz.underlying176
 a167 := Tryz.isAgg176
 z167 := Tryz.sizeOf176
 v167 := Tryz.zeroValue176
 t168 := Tryz.underlying179
 a168 := Tryz.isAgg179
 z168 := Tryz.sizeOf179
 v168 := Tryz.zeroValue179
 t171 := Tryz.underlying182
 a171 := Tryz.isAgg182
 z171 := Tryz.sizeOf182
 v171 := Tryz.zeroValue182
 t173 := Tryz.underlying186
 a173 := Tryz.isAgg186
 z173 := Tryz.sizeOf186
 v173 := Tryz.zeroValue186
 t175 := Tryz.underlying189
 a175 := Tryz.isAgg189
 z175 := Tryz.sizeOf189
 v175 := Tryz.zeroValue189
 t210 := Tryz.underlying194
 a210 := Tryz.isAgg194
 z210 := Tryz.sizeOf194
 v210 := Tryz.zeroValue194
 t212 := Tryz.underlying197
 a212 := Tryz.isAgg197
 z212 := Tryz.sizeOf197
 v212 := Tryz.zeroValue197
 t213 := Tryz.underlying199
 a213 := Tryz.isAgg199
 z213 := Tryz.sizeOf199
 t232 := Tryz.underlying209
 a232 := Tryz.isAgg209
 z232 := Tryz.sizeOf209
 v232 := Tryz.zeroValue209
 t233 := Tryz.underlying210
 a233 := Tryz.isAgg210
 z233 := Tryz.sizeOf210
 v233 := Tryz.zeroValue210
 g15 := by kernel_rfl
 g16 := by kernel_rfl
 g17 := by kernel_rfl
 g18 := by kernel_rfl
 g19 := by kernel_rfl
 t80 := Tryz.underlying40
 a80 := Tryz.isAgg40
 z80 := Tryz.sizeOf40
 v80 := Tryz.zeroValue40
 i0 := by kernel_rfl
 i2 := by kernel_rfl
 i3 := by kernel_rfl
 i4 := by kernel_rfl
 i5 := by kernel_rfl
 i9 := by kernel_rfl
 i20 := by kernel_rfl
 i21 := by kernel_rfl
 i37 := by kernel_rfl
 i46 := by kernel_rfl
 i51 := by kernel_rfl
 i53 := by kernel_rfl
 i75 := by kernel_rfl
 i76 := by kernel_rfl
 i80 := by kernel_rfl
 i85 := by kernel_rfl
 i127 := by kernel_rfl
 i143 := by kernel_rfl
 i145 := by kernel_rfl
 i167 := by kernel_rfl
 i168 := by kernel_rfl
 i171 := by kernel_rfl
 i173 := by kernel_rfl
 i175 := by kernel_rfl
 i210 := by kernel_rfl
 i212 := by kernel_rfl
 i232 := by kernel_rfl
 i233 := by kernel_rfl
 m15 := by kernel_rfl
 m16 := by kernel_rfl
 m17 := by kernel_rfl
 m18 := by kernel_rfl
 m19 := by kernel_rfl
 c0 := by kernel_rfl
 c2 := by kernel_rfl
 c3 := by kernel_rfl
 c4 := by kernel_rfl
 c5 := by kernel_rfl
 c9 := by kernel_rfl
 c20 := by kernel_rfl
 c21 := by kernel_rfl
 c37 := by kernel_rfl
 c46 := by kernel_rfl
 c51 := by kernel_rfl
 c53 := by kernel_rfl
 c75 := by kernel_rfl
 c76 := by kernel_rfl
 c80 := by kernel_rfl
 c85 := by kernel_rfl
 c127 := by kernel_rfl
 c143 := by kernel_rfl
 c145 := by kernel_rfl
 c167 := by kernel_rfl
 c168 := by kernel_rfl
 c171 := by kernel_rfl
 c173 := by kernel_rfl
 c175 := by kernel_rfl
 c210 := by kernel_rfl
 c212 := by kernel_rfl
 c213 := by kernel_rfl
 c232 := by kernel_rfl
 c233 := by kernel_rfl
}
end Go.Proofs.YtockffblncdikaaGreatDoor
namespace Go.Proofs.YtockffblncdikaaGreatDoor
open Go.RowKit Go.Shelf
set_option maxRecDepth 100000
set_option maxHeartbeats 16000000
def itLays_ren : Go.Shelf.Ren := ⟨fun | 0 => 0 | 1 => 1 | 2 => 2 | 99 => 61 | 129 => 141 | 137 => 83 | 171 => 101 | 172 => 110 | 205 => 139 | 206 => 82 | 217 => 106 | 243 => 114 | 244 => 119 | 245 => 120 | 246 => 122 | 247 => 125 | 266 => 115 | 279 => 126 | 280 => 127 | 281 => 128 | 282 => 129 | 283 => 130 | 284 => 131 | 285 => 132 | 286 => 133 | 287 => 137 | 316 => 138 | 317 => 140 | 318 => 142 | 319 => 143 | 320 => 144 | 321 => 147 | 322 => 148 | 337 => 149 | 338 => 150 | 347 => 151 | 348 => 152 | 349 => 153 | 350 => 154 | 351 => 155 | 352 => 156 | 353 => 157 | 354 => 158 | 355 => 159 | 356 => 160 | 357 => 161 | 358 => 162 | 359 => 163 | 360 => 164 | 361 => 165 | 363 => 170 | 364 => 168 | 365 => 169 | 366 => 171 | 367 => 182 | n => n,
 fun | 0 => 0 | 1 => 1 | 2 => 2 | 3 => 3 | 4 => 4 | 5 => 5 | 6 => 6 | 7 => 7 | 8 => 8 | 9 => 9 | 10 => 10 | 11 => 11 | 12 => 12 | 13 => 13 | 14 => 14 | 15 => 15 | 16 => 16 | 17 => 17 | 18 => 18 | 19 => 19 | 20 => 20 | 21 => 21 | 22 => 120 | 31 => 54 | 37 => 69 | 41 => 119 | 46 => 191 | 47 => 201 | 51 => 198 | 52 => 208 | 53 => 183 | 54 => 184 | 55 => 142 | 69 => 192 | 73 => 33 | 74 => 24 | 75 => 25 | 76 => 140 | 77 => 141 | 80 => 40 | 81 => 78 | 83 => 165 | 84 => 173 | 85 => 177 | 86 => 178 | 103 => 121 | 104 => 97 | 108 => 195 | 111 => 200 | 114 => 150 | 127 => 92 | 128 => 172 | 143 => 205 | 144 => 206 | 145 => 207 | 164 => 116 | 167 => 176 | 168 => 179 | 169 => 180 | 170 => 181 | 171 => 182 | 172 => 185 | 173 => 186 | 174 => 187 | 175 => 189 | 176 => 190 | 209 => 193 | 210 => 194 | 211 => 196 | 212 => 197 | 213 => 199 | 214 => 204 | 232 => 209 | 233 => 210 | 238 => 211 | 239 => 212 | 240 => 213 | 241 => 214 | 242 => 215 | 243 => 216 | 244 => 217 | 245 => 218 | 246 => 219 | 247 => 220 | 248 => 221 | 249 => 222 | n => n,
 fun | 1 => 2 | 15 => 4 | 16 => 5 | 17 => 6 | 18 => 7 | 19 => 8 | n => n⟩
theorem itLays : Go.Proofs.LaysM.n171 Tryz.prog itLays_ren := {
 mixed := by kernel_rfl
 f129 := Tryz.func141.trans (congrArg some (by kernel_rfl))
 f171 := Tryz.func101.trans (congrArg some (by kernel_rfl))
 f243 := Tryz.func114.trans (congrArg some (by kernel_rfl))
 f246 := Tryz.func122.trans (congrArg some (by kernel_rfl))
 f283 := Tryz.func130.trans (congrArg some (by kernel_rfl))
 f284 := Tryz.func131.trans (congrArg some (by kernel_rfl))
 f285 := Tryz.func132.trans (congrArg some (by kernel_rfl))
 f286 := Tryz.func133.trans (congrArg some (by kernel_rfl))
 f317 := Tryz.func140.trans (congrArg some (by kernel_rfl))
 f318 := Tryz.func142.trans (congrArg some (by kernel_rfl))
 f319 := Tryz.func143.trans (congrArg some (by kernel_rfl))
 f320 := Tryz.func144.trans (congrArg some (by kernel_rfl))
 f337 := Tryz.func149.trans (congrArg some (by kernel_rfl))
 f338 := Tryz.func150.trans (congrArg some (by kernel_rfl))
 t0 := Tryz.underlying0
 a0 := Tryz.isAgg0
 z0 := Tryz.sizeOf0
 v0 := Tryz.zeroValue0
 t2 := Tryz.underlying2
 a2 := Tryz.isAgg2
 z2 := Tryz.sizeOf2
 v2 := Tryz.zeroValue2
 t3 := Tryz.underlying3
 a3 := Tryz.isAgg3
 z3 := Tryz.sizeOf3
 v3 := Tryz.zeroValue3
 t4 := Tryz.underlying4
 a4 := Tryz.isAgg4
 z4 := Tryz.sizeOf4
 v4 := Tryz.zeroValue4
 t5 := Tryz.underlying5
 a5 := Tryz.isAgg5
 z5 := Tryz.sizeOf5
 v5 := Tryz.zeroValue5
 t9 := Tryz.underlying9
 a9 := Tryz.isAgg9
 z9 := Tryz.sizeOf9
 v9 := Tryz.zeroValue9
 t20 := Tryz.underlying20
 a20 := Tryz.isAgg20
 z20 := Tryz.sizeOf20
 v20 := Tryz.zeroValue20
 t37 := Tryz.underlying69
 a37 := Tryz.isAgg69
 z37 := Tryz.sizeOf69
 v37 := Tryz.zeroValue69
 t46 := Tryz.underlying191
 a46 := Tryz.isAgg191
 z46 := Tryz.sizeOf191
 v46 := Tryz.zeroValue191
 t51 := Tryz.underlying198
 a51 := Tryz.isAgg198
 z51 := Tryz.sizeOf198
 v51 := Tryz.zeroValue198
 t53 := Tryz.underlying183
 a53 := Tryz.isAgg183
 z53 := Tryz.sizeOf183
 v53 := Tryz.zeroValue183
 t171 := Tryz.underlying182
 a171 := Tryz.isAgg182
 z171 := Tryz.sizeOf182
 v171 := Tryz.zeroValue182
 t173 := Tryz.underlying186
 a173 := Tryz.isAgg186
 z173 := Tryz.sizeOf186
 v173 := Tryz.zeroValue186
 t212 := Tryz.underlying197
 a212 := Tryz.isAgg197
 z212 := Tryz.sizeOf197
 v212 := Tryz.zeroValue197
 t213 := Tryz.underlying199
 a213 := Tryz.isAgg199
 z213 := Tryz.sizeOf199
 t232 := Tryz.underlying209
 a232 := Tryz.isAgg209
 z232 := Tryz.sizeOf209
 v232 := Tryz.zeroValue209
 t233 := Tryz.underlying210
 a233 := Tryz.isAgg210
 z233 := Tryz.sizeOf210
 v233 := Tryz.zeroValue210
 g17 := by kernel_rfl
 g18 := by kernel_rfl
 g19 := by kernel_rfl
 i0 := by kernel_rfl
 i2 := by kernel_rfl
 i3 := by kernel_rfl
 i4 := by kernel_rfl
 i5 := by kernel_rfl
 i9 := by kernel_rfl
 i20 := by kernel_rfl
 i37 := by kernel_rfl
 i46 := by kernel_rfl
 i51 := by kernel_rfl
 i53 := by kernel_rfl
 i171 := by kernel_rfl
 i173 := by kernel_rfl
 i212 := by kernel_rfl
 i232 := by kernel_rfl
 i233 := by kernel_rfl
 m17 := by kernel_rfl
 m18 := by kernel_rfl
 m19 := by kernel_rfl
}
end Go.Proofs.YtockffblncdikaaGreatDoor
