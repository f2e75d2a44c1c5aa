/- The document's printing and comparing: what text RefPrint says of it. -/
import Derived.Test.YtjlibnijecdgcaaGreatDoorRPrintT
import Derived.Test.YtjlibnijecdgcaaGreatDoorTokName
import Derived.Test.YtjlibnijecdgcaaGreatDoorGRow
import Derived.Test.YtjlibnijecdgcaaGreatDoorTParseDoc
import Derived.Test.YtjlibnijecdgcaaGreatDoorAlikeDoc2
import Derived.Test.YtjlibnijecdgcaaGreatDoorLevelSuccDoc
import Derived.Test.YtjlibnijecdgcaaGreatDoorLevelWordDoc
import Derived.Test.YtjlibnijecdgcaaGreatDoorTokenDoc
import Derived.Test.YtjlibnijecdgcaaGreatDoorDTermBDoc
import Derived.Test.YtjlibnijecdgcaaGreatDoorDNameDoc
import Derived.Test.YtjlibnijecdgcaaGreatDoorLevelMaxDoc
import Derived.Test.YtjlibnijecdgcaaGreatDoorKin
import Derived.Test.YtjlibnijecdgcaaGreatDoorDTermD
import Derived.Laws.IdiomStrings

/- The contract of the document's PrintLevel. -/
namespace Go.Proofs.YtjlibnijecdgcaaGreatDoor
open Go.RowKit

set_option maxHeartbeats 2000000 in
theorem rprint_two (kd : Int) (ta tc wd : List UInt8) (hta : ta.length ≤ 1000000000) (htc : tc.length ≤ 1000000000) (hkd : (kd = 2 ∧ wd = [109, 97, 120]) ∨ (kd = 3 ∧ wd = [105, 109, 97, 120])) (k' k2 : Int) (nm' nm2 : ByteArray) (A' A2 : Option Addr) (b cap n' cap' n2 cap2 : Nat) (w : World)
    (c0 : w.cell? ⟨b, 0, none⟩ = some (.int .i64 k')) (c1 : w.cell? ⟨b, 0 + 1, none⟩ = some (.string nm')) (c2 : w.cell? ⟨b, 0 + 2, none⟩ = some (.slice A' n' cap'))
    (c3 : w.cell? ⟨b, 3, none⟩ = some (.int .i64 k2)) (c4 : w.cell? ⟨b, 3 + 1, none⟩ = some (.string nm2)) (c5 : w.cell? ⟨b, 3 + 2, none⟩ = some (.slice A2 n2 cap2))
    (iha : ∀ w', Below w.heap.size w w' → Calls Tryz.prog 41 #[.agg #[.int .i64 k', .string nm', .slice A' n' cap']] w' fun e w'' => e = .returned (.string ⟨ta.toArray⟩) ∧ Below w'.heap.size w' w'')
    (ihc : ∀ w', Below w.heap.size w w' → Calls Tryz.prog 41 #[.agg #[.int .i64 k2, .string nm2, .slice A2 n2 cap2]] w' fun e w'' => e = .returned (.string ⟨tc.toArray⟩) ∧ Below w'.heap.size w' w'') :
    Calls Tryz.prog 41 #[.agg #[.int .i64 kd, .string ⟨#[]⟩, .slice (some ⟨b, 0, none⟩) 2 cap]] w fun e w' => e = .returned (.string ⟨([40] ++ wd ++ [32] ++ ta ++ [32] ++ tc ++ [41]).toArray⟩) ∧ Below w.heap.size w w' := by
  have HA := hide iha
  have HC := hide ihc
  clear iha ihc
  rcases hkd with ⟨rfl, rfl⟩ | ⟨rfl, rfl⟩
  all_goals
    go_enter Tryz.func41, Tryz.ntmps41
    go_wp2_with fail
    generalize hW0 : w.alloc (.cells #[.int .i64 _, .string ⟨#[]⟩, .slice (some ⟨b, 0, none⟩) 2 cap] 94) = W0 at *
    have hsz : W0.heap.size = w.heap.size + 1 := by rw [← hW0]; simp
    have hold : Below w.heap.size w W0 := by rw [← hW0]; exact (Below.refl _ _).alloc (Nat.le_refl _) _
    have q2 : ∀ x : Later (w.heap.size + 1) W0, x.W.cell? ⟨w.heap.size, 2, none⟩ = some (.slice (some ⟨b, 0, none⟩) 2 cap) := fun x => by rw [x.h.cell (by simp), ← hW0]; simp
    have hb0 : ∀ x : Later (w.heap.size + 1) W0, Below w.heap.size w x.W := fun x => hold.trans (x.h.mono (by omega))
    have q3 : ∀ x : Later (w.heap.size + 1) W0, x.W.cell? ⟨b, 0, none⟩ = some (.int .i64 k') := fun x => cell_later (hb0 x) c0
    have q4 : ∀ x : Later (w.heap.size + 1) W0, x.W.cell? ⟨b, 1, none⟩ = some (.string nm') := fun x => cell_later (hb0 x) c1
    have q5 : ∀ x : Later (w.heap.size + 1) W0, x.W.cell? ⟨b, 2, none⟩ = some (.slice A' n' cap') := fun x => cell_later (hb0 x) c2
    have q6 : ∀ x : Later (w.heap.size + 1) W0, x.W.cell? ⟨b, 3, none⟩ = some (.int .i64 k2) := fun x => cell_later (hb0 x) c3
    have q7 : ∀ x : Later (w.heap.size + 1) W0, x.W.cell? ⟨b, 4, none⟩ = some (.string nm2) := fun x => cell_later (hb0 x) c4
    have q8 : ∀ x : Later (w.heap.size + 1) W0, x.W.cell? ⟨b, 5, none⟩ = some (.slice A2 n2 cap2) := fun x => cell_later (hb0 x) c5
    have HL := hide (fun W (hW : Below (w.heap.size + 1) W0 W) => HA.out W (hold.trans (hW.mono (by omega))))
    have HL' := hide (fun W (hW : Below (w.heap.size + 1) W0 W) => HC.out W (hold.trans (hW.mono (by omega))))
    have HS := hide hsz
    have HO := hide hold
    clear hW0 hsz hold hb0 c0 c1 c2 c3 c4 c5
    refine wp_region_later (by kernel_rfl) (by kernel_rfl) (Below.refl (w.heap.size + 1) W0) ?_
    have hst := Later.some (w.heap.size + 1) W0
    have hn2 : w.heap.size + 1 ≤ W0.heap.size := by rw [HS.out]; exact Nat.le_refl _
    have e1 : (9223372036854775807 < 5 + ta.length) = False := eq_false (by omega)
    have e2 : (9223372036854775807 < 5 + ta.length + 1) = False := eq_false (by omega)
    have e3 : (9223372036854775807 < 5 + ta.length + 1 + tc.length) = False := eq_false (by omega)
    have e4 : (9223372036854775807 < 5 + ta.length + 1 + tc.length + 1) = False := eq_false (by omega)
    have e5 : (9223372036854775807 < 6 + ta.length) = False := eq_false (by omega)
    have e6 : (9223372036854775807 < 6 + ta.length + 1) = False := eq_false (by omega)
    have e7 : (9223372036854775807 < 6 + ta.length + 1 + tc.length) = False := eq_false (by omega)
    have e8 : (9223372036854775807 < 6 + ta.length + 1 + tc.length + 1) = False := eq_false (by omega)
    quiet_step (fail)
    quiet_step (fail)
    quiet_step (fail)
    quiet_step (fail)
    quiet_step (fail)
    quiet_step (fail)
    quiet_step (fail)
    quiet_step (exact Later.calls HL.out hn2 _)
    quiet_step (fail)
    quiet_step (fail)
    quiet_step (fail)
    quiet_step (fail)
    quiet_step (fail)
    quiet_step (fail)
    quiet_step (exact Later.calls HL'.out hn2 _)
    quiet_step (fail)
    quiet_step (fail)
    quiet_step (fail)
    refine wpQuiet_nil ?_
    intro _ hw'
    obtain ⟨x, rfl⟩ := hw'
    go_wp2_with fail
    go_ret
    refine ⟨ret_str ?_, HO.out.trans (x.h.mono (by omega))⟩
    rw [ByteArray.ext_iff]
    simp

set_option maxHeartbeats 1000000 in
theorem rprint_calls : ∀ (l : LvB) (v : Value) (B : Nat) (w : World), l.nodes ≤ 1000000 → (∀ p, Lv.has p l → p.size ≤ 1000) → B ≤ w.heap.size → InLv w B l v →
    Calls Tryz.prog 41 #[v] w fun e w' => e = .returned (.string ⟨l.text.toArray⟩) ∧ Below w.heap.size w w' := by
  intro l
  induction l with
  | zero =>
    intro v B w _ _ _ hl
    subst hl
    go_enter Tryz.func41, Tryz.ntmps41
    go_wp2_with fail
    go_ret
    exact ⟨rfl, (Below.refl _ _).alloc (Nat.le_refl _) _⟩
  | param p =>
    intro v B w _ _ _ hl
    subst hl
    go_enter Tryz.func41, Tryz.ntmps41
    go_wp2_with fail
    go_ret
    exact ⟨rfl, (Below.refl _ _).alloc (Nat.le_refl _) _⟩
  | succ a ih =>
    intro v B w hn hm hBw hl
    obtain ⟨b, cap, x, rfl, hb, ⟨k', nm', A', n', cap', rfl, c0, c1, c2⟩, ha⟩ := hl
    simp only [Lv.nodes] at hn
    have hbs : b < w.heap.size := by omega
    have hlen := Lv.text_len a hm
    have HI : Hid (∀ w', Below w.heap.size w w' → _) := fun w' (hb' : Below w.heap.size w w') => ih _ B w' (by omega) hm (Nat.le_trans hBw hb'.size) (ha.below (hb'.mono hBw))
    clear ih ha hm
    simp only [Lv.text]
    generalize Lv.text a = ta at *
    go_enter Tryz.func41, Tryz.ntmps41
    go_wp2_with (go_at_call 41; refine (HI.out _ ?_).mono ?_)
    · exact (Below.refl _ _).alloc (Nat.le_refl _) _
    rintro e w' ⟨rfl, hbw⟩
    have HW : Hid (Below w.heap.size w w') := ((Below.refl _ _).alloc (Nat.le_refl _) _).trans (hbw.mono (by simp))
    clear hbw
    go_wp2_with fail
    go_ret
    refine ⟨ret_str ?_, HW.out⟩
    rw [ByteArray.ext_iff]
    simp
  | max a c iha ihc =>
    intro v B w hn hm hBw hl
    obtain ⟨b, cap, x, y, rfl, hb, ⟨k', nm', A', n', cap', rfl, c0, c1, c2⟩, ⟨k2, nm2, A2, n2, cap2, rfl, c3, c4, c5⟩, ha, hc⟩ := hl
    simp only [Lv.nodes] at hn
    exact rprint_two 2 (Lv.text a) (Lv.text c) [109, 97, 120] (by have := Lv.text_len a fun p hp => hm p (.inl hp); omega) (by have := Lv.text_len c fun p hp => hm p (.inr hp); omega) (.inl ⟨rfl, rfl⟩) k' k2 nm' nm2 A' A2 b cap n' cap' n2 cap2 w c0 c1 c2 c3 c4 c5
      (fun w' hb' => iha _ B w' (by omega) (fun p hp => hm p (.inl hp)) (Nat.le_trans hBw hb'.size) (ha.below (hb'.mono hBw)))
      (fun w' hb' => ihc _ B w' (by omega) (fun p hp => hm p (.inr hp)) (Nat.le_trans hBw hb'.size) (hc.below (hb'.mono hBw)))
  | imax a c iha ihc =>
    intro v B w hn hm hBw hl
    obtain ⟨b, cap, x, y, rfl, hb, ⟨k', nm', A', n', cap', rfl, c0, c1, c2⟩, ⟨k2, nm2, A2, n2, cap2, rfl, c3, c4, c5⟩, ha, hc⟩ := hl
    simp only [Lv.nodes] at hn
    exact rprint_two 3 (Lv.text a) (Lv.text c) [105, 109, 97, 120] (by have := Lv.text_len a fun p hp => hm p (.inl hp); omega) (by have := Lv.text_len c fun p hp => hm p (.inr hp); omega) (.inr ⟨rfl, rfl⟩) k' k2 nm' nm2 A' A2 b cap n' cap' n2 cap2 w c0 c1 c2 c3 c4 c5
      (fun w' hb' => iha _ B w' (by omega) (fun p hp => hm p (.inl hp)) (Nat.le_trans hBw hb'.size) (ha.below (hb'.mono hBw)))
      (fun w' hb' => ihc _ B w' (by omega) (fun p hp => hm p (.inr hp)) (Nat.le_trans hBw hb'.size) (hc.below (hb'.mono hBw)))

end Go.Proofs.YtjlibnijecdgcaaGreatDoor

/- The document's printing and comparing: what text RPrintT says of it. -/
/- The contracts of the document's digits and PrintTerm. -/
namespace Go.Proofs.YtjlibnijecdgcaaGreatDoor
open Go.RowKit

set_option maxRecDepth 100000 in
set_option maxHeartbeats 2000000 in
theorem rdigits_calls : ∀ (d n : Nat) (w : World), n < 10 ^ (d + 1) → n ≤ 900000 →
    Calls Tryz.prog 25 #[.int .i64 (n : Nat)] w fun e w' => e = .returned (.string ⟨(Lib.decDigits n).toArray⟩) ∧ Below w.heap.size w w' := by
  intro d
  induction d with
  | zero =>
    intro n w h hn
    have h10 : n < 10 := by simpa using h
    obtain ⟨c, hc, hcv⟩ := digit_conv n w
    have HD : Hid (Lib.decDigits n = [c]) := by show _ = _; rw [hc, Lib.decDigits_one h10, Nat.mod_eq_of_lt h10]
    clear h hc
    go_enter Tryz.func25, Tryz.ntmps25
    go_wp2_with fail
    go_ret
    exact ⟨by rw [HD.out]; rfl, (Below.refl _ _).alloc (Nat.le_refl _) _⟩
  | succ d ih =>
    intro n w h hn
    obtain ⟨c, hc, hcv⟩ := digit_conv n w
    by_cases h10 : n < 10
    · have HD : Hid (Lib.decDigits n = [c]) := by show _ = _; rw [hc, Lib.decDigits_one h10, Nat.mod_eq_of_lt h10]
      clear h ih hc
      go_enter Tryz.func25, Tryz.ntmps25
      go_wp2_with fail
      go_ret
      exact ⟨by rw [HD.out]; rfl, (Below.refl _ _).alloc (Nat.le_refl _) _⟩
    · have HD : Hid (Lib.decDigits n = Lib.decDigits (n / 10) ++ [c]) := by show _ = _; rw [hc, Lib.decDigits, dif_neg h10]
      have h5 : (10 : Nat) ^ 6 = 1000000 := by decide
      have hlen := digits_len 5 (n / 10) (by rw [h5]; omega)
      have K := hide (fun W => ih (n / 10) W (by rw [Nat.pow_succ] at h; omega) (by omega))
      rw [Int.natCast_ediv] at K
      generalize Lib.decDigits (n / 10) = D at *
      clear h ih hc
      go_enter Tryz.func25, Tryz.ntmps25
      go_wp2_with (go_at_call 25; refine (K.out _).mono ?_)
      intro e w1 he hb
      subst he
      have HB : Hid (Below w.heap.size w w1) := ((Below.refl w.heap.size w).alloc (Nat.le_refl _) _).trans (hb.mono (by simp))
      clear hb hcv
      go_wp2_with fail
      go_ret
      exact ⟨ret_str (by rw [HD.out]; exact bytes_append D [c]), HB.out⟩

set_option maxRecDepth 100000 in
set_option maxHeartbeats 4000000 in
theorem rprintT_calls (wb wo wc : Nat) : ∀ (d : Nat) (t : Tm) (v : Value) (w : World), WfT d t → InTm w (fun _ => True) d t v → WordsAt w wb wo wc → (textT d t).length ≤ 1000000000 →
    Calls Tryz.prog 26 #[v] w fun e w' => e = .returned (.string ⟨(textT d t).toArray⟩) ∧ Below w.heap.size w w'
  | 0, _, _, _, h, _, _, _ => absurd h (by simp [WfT])
  | d + 1, t, v, w, hwf, hin, hwd, hlen => by
    have ih := rprintT_calls wb wo wc d
    obtain ⟨A, c, A', c', rfl, hl, ht⟩ := hin
    obtain ⟨a1, a2, a3, a4, a5, a6, a7, a8, a9, a10⟩ := hwf
    have h3 : t.ts.length ≤ 3 := by rw [a8]; exact tparts_le _
    have hE : textT (d + 1) t = if t.kd = 0 then 35 :: Lib.decDigits t.n else t.open_ ++ spaced Lv.text t.ls ++ spaced (textT d) t.ts ++ [41] := rfl
    rw [hE] at hlen ⊢
    by_cases hk : t.kd = 0
    · have q0 : ((t.kd : Int) == 0) = true := by simp [hk]
      rw [if_pos hk]
      have h5 : (10 : Nat) ^ 6 = 1000000 := by decide
      have hdl := digits_len 5 t.n (by rw [h5]; omega)
      have K := hide (fun W => rdigits_calls 5 t.n W (by rw [h5]; omega) a2)
      generalize Lib.decDigits t.n = D at *
      clear hl ht a10 a9 a3 a4 a5 a8 ih hlen hE hk hwd
      go_enter Tryz.func26, Tryz.ntmps26
      go_wp2_with (go_at_call 25; refine (K.out _).mono ?_)
      intro e w1 he hb
      subst he
      have HB : Hid (Below w.heap.size w w1) := ((Below.refl w.heap.size w).alloc (Nat.le_refl _) _).trans (hb.mono (by simp))
      clear hb
      go_wp2_with fail
      go_ret
      exact ⟨ret_str (bytes_append [35] D), HB.out⟩
    · have q0 : ((t.kd : Int) == 0) = false := by simp; omega
      rw [if_neg hk] at hlen ⊢
      have s0 := hwd.s
      have cw : w.cell? ⟨wb, wo + t.kd, none⟩ = some (.string (tword t.kd)) := hwd.word (by omega) a1
      have hlt0 := hwd.lt
      have hl0 := hlt0.1
      have hl1 := hlt0.2
      have hk7 : t.kd < 7 := by omega
      have hwl : (tword t.kd).size ≤ 5 := tword_size _
      have hopen : t.open_.length + (spaced Lv.text t.ls).length + (spaced (textT d) t.ts).length + 1 ≤ 1000000000 := by simpa [Nat.add_assoc] using hlen
      have IH := hide ih
      have HL := hide hl
      have HT := hide ht
      have HW := hide a10
      have H9 := hide a9
      have HWd := hide hwd
      have hcase : (((t.kd : Int) == 2) = true ∧ t.kd = 2) ∨ (((t.kd : Int) == 2) = false ∧ t.kd ≠ 2) := by
        by_cases h : t.kd = 2
        · exact .inl ⟨by simp [h], h⟩
        · exact .inr ⟨by rw [beq_eq_false_iff_ne]; omega, h⟩
      clear ih hl ht a10 a9 a3 a4 a5 a8 hE hwd hlt0 hlen
      rcases hcase with ⟨q2, h2⟩ | ⟨q2, h2⟩
      all_goals
        have H2 := hide h2
        clear h2
        go_enter Tryz.func26, Tryz.ntmps26
        go_wp2_with fail
        go_loopg [3, 4] (t.ls.length) (fun g s i wr => ∃ k : Nat, k + g = t.ls.length ∧ i = .int .i64 k ∧ s = .string ⟨(t.open_ ++ spaced Lv.text (t.ls.take k)).toArray⟩ ∧ Box5 w (.int .i64 (t.kd : Nat)) (.int .i64 (t.n : Nat)) (.string t.nm) (.slice A t.ls.length c) (.slice A' t.ts.length c') wr)
        case atStart => exact ⟨0, by omega, rfl, by first | (rw [str_open2 t H2.out]; simp [spaced]) | (rw [str_open0 t H2.out]; simp [spaced]), Below.refl _ _⟩
        case round =>
          obtain ⟨k, hkg, rfl, rfl, hwr⟩ := hrel
          obtain ⟨g0, g1, g2, g3, g4⟩ := Box5.cells hwr
          have hz := Box5.size hwr
          have hold := Box5.old hwr
          have HWr := hide hwr
          have hsl := spaced_le Lv.text t.ls k
          by_cases hlt : k < t.ls.length
          · obtain ⟨b1, x, rfl, _, h3', hinx⟩ := HL.out k hlt
            obtain ⟨kk, nm', A3, n', cap', rfl, e0, e1, e2⟩ := h3'
            have d0 := cell_later hold e0
            have d1 := cell_later hold e1
            have d2 := cell_later hold e2
            have hst := spaced_succ Lv.text t.ls k hlt
            have hsl2 := spaced_le Lv.text t.ls (k + 1)
            rw [hst] at hsl2
            simp only [List.length_append, List.length_cons, List.length_nil] at hsl2
            have HP : Hid (t.open_ ++ spaced Lv.text (t.ls.take (k + 1)) = (t.open_ ++ spaced Lv.text (t.ls.take k)) ++ [32] ++ (t.ls[k]).text) := by show _ = _; rw [hst]; simp
            have hPl : (t.open_ ++ spaced Lv.text (t.ls.take k)).length ≤ 1000000000 := by rw [List.length_append]; omega
            have hTl : ((t.ls[k]).text).length ≤ 1000000000 := by omega
            have KL := hide (rprint_calls t.ls[k] _ w.heap.size wr (by have := (H9.out _ (List.getElem_mem hlt)).1; omega) (H9.out _ (List.getElem_mem hlt)).2 (by omega) (hinx.inLv.below hold))
            generalize t.open_ ++ spaced Lv.text (t.ls.take k) = P at *
            generalize (t.ls[k]).text = T at *
            clear hwr hold e0 e1 e2 hinx hst hsl2 hsl
            go_wp2_with (go_at_call 41; refine KL.out.mono ?_)
            rintro e w1 ⟨rfl, hb1⟩
            have HB1 := hide (Box5.then HWr.out hb1)
            clear hb1 KL g0 g1 g2 g3 g4 d0 d1 d2
            go_wp2_with fail
            go_roundg (t.ls.length - (k + 1))
            case measure => omega
            case rel => exact ⟨k + 1, by omega, by go_num, by rw [HP.out, ← bytes_append, ← bytes_append], HB1.out⟩
          · have hke : k = t.ls.length := by omega
            subst hke
            rw [List.take_length]
            have hPl : (t.open_ ++ spaced Lv.text t.ls).length + (spaced (textT d) t.ts).length + 1 ≤ 1000000000 := by rw [List.length_append]; omega
            clear hwr hold hsl
            generalize hPe : t.open_ ++ spaced Lv.text t.ls = P at *
            have HPe := hide hPe
            clear hPe
            go_wp2_with fail
            go_loopg [3, 5] (t.ts.length) (fun g s i wr => ∃ k : Nat, k + g = t.ts.length ∧ i = .int .i64 k ∧ s = .string ⟨(P ++ spaced (textT d) (t.ts.take k)).toArray⟩ ∧ Box5 w (.int .i64 (t.kd : Nat)) (.int .i64 (t.n : Nat)) (.string t.nm) (.slice A t.ls.length c) (.slice A' t.ts.length c') wr)
            case atStart => exact ⟨0, by omega, rfl, by simp [spaced], HWr.out⟩
            case round =>
              clear g0 g1 g2 g3 g4 hz HWr
              obtain ⟨k, hkg2, rfl, rfl, hwr⟩ := hrel
              obtain ⟨g0, g1, g2, g3, g4⟩ := Box5.cells hwr
              have hz := Box5.size hwr
              have hold := Box5.old hwr
              have HWr := hide hwr
              have hsl := spaced_le (textT d) t.ts k
              by_cases hlt2 : k < t.ts.length
              · obtain ⟨b1, x, rfl, _, h5, hinx⟩ := HT.out k hlt2
                obtain ⟨kk, nn, nm', A3, n', cap', A5, n5, cap5, rfl, e0, e1, e2, e3, e4⟩ := h5
                have d0 := cell_later hold e0
                have d1 := cell_later hold e1
                have d2 := cell_later hold e2
                have d3 := cell_later hold e3
                have d4 := cell_later hold e4
                have hst := spaced_succ (textT d) t.ts k hlt2
                have hsl2 := spaced_le (textT d) t.ts (k + 1)
                rw [hst] at hsl2
                simp only [List.length_append, List.length_cons, List.length_nil] at hsl2
                have HP : Hid (P ++ spaced (textT d) (t.ts.take (k + 1)) = (P ++ spaced (textT d) (t.ts.take k)) ++ [32] ++ textT d t.ts[k]) := by show _ = _; rw [hst]; simp
                have hPl2 : (P ++ spaced (textT d) (t.ts.take k)).length ≤ 1000000000 := by rw [List.length_append]; omega
                have hTl : (textT d t.ts[k]).length ≤ 1000000000 := by omega
                have KL := hide (IH.out t.ts[k] _ wr (HW.out k hlt2) (hinx.keep fun b hb _ => ⟨trivial, hold.block b hb⟩) (HWd.out.of_blocks (hold.block 1 hl0) (hold.block wb hl1)) hTl)
                generalize P ++ spaced (textT d) (t.ts.take k) = P2 at *
                generalize textT d t.ts[k] = T at *
                clear hwr hold e0 e1 e2 e3 e4 hinx hst hsl2 hsl
                go_wp2_with (go_at_call 26; refine KL.out.mono ?_)
                rintro e w1 ⟨rfl, hb1⟩
                have HB1 := hide (Box5.then HWr.out hb1)
                clear hb1 KL g0 g1 g2 g3 g4 d0 d1 d2 d3 d4
                go_wp2_with fail
                go_roundg (t.ts.length - (k + 1))
                case measure => omega
                case rel => exact ⟨k + 1, by omega, by go_num, by rw [HP.out, ← bytes_append, ← bytes_append], HB1.out⟩
              · have hke : k = t.ts.length := by omega
                subst hke
                rw [List.take_length]
                have hPl2 : (P ++ spaced (textT d) t.ts).length + 1 ≤ 1000000000 := by rw [List.length_append]; omega
                clear hwr hold hsl
                generalize hPe2 : P ++ spaced (textT d) t.ts = P2 at *
                have HPe2 := hide hPe2
                clear hPe2
                go_wp2_with fail
                go_ret
                exact ⟨ret_str (by rw [HPe.out, HPe2.out]; exact bytes_append P2 [41]), Box5.old HWr.out⟩

end Go.Proofs.YtjlibnijecdgcaaGreatDoor
