/- The contracts of WriteTerm and of Print of package term. -/
import Derived.Test.YtjlibnijecdgcaaGreatDoorRPrintT
import Derived.Test.YtjlibnijecdgcaaGreatDoorFJoin
import Derived.Test.YtjlibnijecdgcaaGreatDoorItoa
import Derived.Test.YtjlibnijecdgcaaGreatDoorTParams

namespace Go.Proofs.YtjlibnijecdgcaaGreatDoor
open Go.RowKit

/-- The table of terms' shapes, as it is laid. -/
structure TTable (w : World) : Prop where
  word : ∀ k, k ≤ 6 → w.cell? ⟨3, k * 4, none⟩ = some (.string (tword k))
  named : ∀ k, k ≤ 6 → w.cell? ⟨3, k * 4 + 1, none⟩ = some (.bool (decide (k = 2)))
  levels : ∀ k, k ≤ 6 → ∃ n : Int, w.cell? ⟨3, k * 4 + 2, none⟩ = some (.int .i64 n)
  terms : ∀ k, k ≤ 6 → ∃ n : Int, w.cell? ⟨3, k * 4 + 3, none⟩ = some (.int .i64 n)

theorem TTable.below {w w' : World} {b : Nat} (h : TTable w) (hb : Below b w w') (h0 : 3 < b) : TTable w' :=
  ⟨fun k hk => (hb.cell h0).trans (h.word k hk), fun k hk => (hb.cell h0).trans (h.named k hk), fun k hk => (h.levels k hk).imp fun _ e => (hb.cell h0).trans e, fun k hk => (h.terms k hk).imp fun _ e => (hb.cell h0).trans e⟩

theorem Wrote.boxA {b n : Nat} {w w' : World} {cs : Array Value} {T : TypeId} (h : Wrote b w w') (hn : w.heap[n]? = some (.cells cs T (0, 0))) (hne : n ≠ b) (hT : T ≠ 5) : w'.heap[n]? = some (.cells cs T (0, 0)) :=
  h.others n _ hn (fun e => hne (Option.some.inj e)) fun _ _ e => by injection e with _ e2 _; exact hT e2
theorem Wrote.of_below {b : Nat} {w w' : World} (hb : Below w.heap.size w w') (h : b ≤ w.heap.size) : Wrote b w w' := ⟨hb.mono h, fun k _ hk _ _ => (hb.block k (Array.getElem?_eq_some_iff.1 hk).1).trans hk⟩
theorem Holds.later {w w' : World} {b : Nat} {l : List UInt8} (h : Holds w b l) (hb : Below w.heap.size w w') : Holds w' b l := by
  have key : ∀ p, Lib.BuilderAtF 55 5 b b p (Lib.byteCells l) w → Lib.BuilderAtF 55 5 b b p (Lib.byteCells l) w' := by
    rintro p ⟨hB, v, hblk, ⟨hlen, hown⟩, hne⟩
    refine ⟨hB, v, (hb.block b (Array.getElem?_eq_some_iff.1 hblk).1).trans hblk, ⟨hlen, ?_⟩, hne⟩
    rcases hown with h | ⟨g, cap, cur, fz, e, h1, h2, r⟩
    · exact .inl h
    · exact .inr ⟨g, cap, cur, fz, e, h1, (hb.block g (Array.getElem?_eq_some_iff.1 h2).1).trans h2, r⟩
  exact h.imp (key _) (key _)
theorem Step.later {w W W' : World} {b : Nat} {acc : List UInt8} (h : Step w b acc W) (hb : Below W.heap.size W W') : Step w b acc W' := ⟨h.holds.later hb, h.wrote.trans (Wrote.of_below hb (Nat.le_of_lt h.holds.lt))⟩

/-- Behind the boxes of a term and of its shape, what has been written. -/
structure WSt (w : World) (b : Nat) (cs sh : Array Value) (acc : List UInt8) (W : World) : Prop where
  step : Step w b acc W
  tbox : W.heap[w.heap.size]? = some (.cells cs 43 (0, 0))
  sbox : W.heap[w.heap.size + 1]? = some (.cells sh 124 (0, 0))
theorem WSt.then {w W W' : World} {b : Nat} {cs sh : Array Value} {acc acc' : List UInt8} (h : WSt w b cs sh acc W) (hb : b < w.heap.size) (hh : Holds W' b acc') (hw : Wrote b W W') : WSt w b cs sh acc' W' :=
  ⟨h.step.then hh hw, hw.boxA h.tbox (by omega) (by decide), hw.boxA h.sbox (by omega) (by decide)⟩
theorem WSt.later {w W W' : World} {b : Nat} {cs sh : Array Value} {acc : List UInt8} (h : WSt w b cs sh acc W) (hb : Below W.heap.size W W') : WSt w b cs sh acc W' :=
  ⟨h.step.later hb, (hb.block _ (Array.getElem?_eq_some_iff.1 h.tbox).1).trans h.tbox, (hb.block _ (Array.getElem?_eq_some_iff.1 h.sbox).1).trans h.sbox⟩
theorem WSt.start {w : World} {b : Nat} {acc : List UInt8} (h : Holds w b acc) (cs sh : Array Value) : WSt w b cs sh acc ((w.alloc (.cells cs 43)).alloc (.cells sh 124)) := by
  refine ⟨Step.alloc (Step.alloc ⟨h, Wrote.refl b w⟩ _) _, ?_, ?_⟩
  · rw [Below.heap_alloc _ _ _ (by simp)]; exact heap_alloc_new _ _
  · have := heap_alloc_new (w.alloc (.cells cs 43)) (.cells sh 124)
    simpa using this
theorem WSt.byte {w W : World} {b : Nat} {cs sh : Array Value} {acc : List UInt8} (c : UInt8) (h : WSt w b cs sh acc W) (hb : b < w.heap.size) (hl : acc.length ≤ 1000000000000) :
    Calls Tryz.prog 18 #[.pointer (some ⟨b, 0, none⟩), .int .u8 (c.toNat : Int)] W fun e w' => e = .returned .nilIface ∧ Hid (WSt w b cs sh (acc ++ [c]) w') :=
  (writeByte_calls b acc c W h.step.holds hl (Nat.le_of_lt h.step.holds.lt)).mono fun _ _ ⟨he, hh, hw⟩ => ⟨he, h.then hb hh hw⟩
theorem WSt.str {w W : World} {b : Nat} {cs sh : Array Value} {acc : List UInt8} (s : ByteArray) (h : WSt w b cs sh acc W) (hb : b < w.heap.size) (hl : acc.length ≤ 1000000000000) (hs : s.size ≤ 1000000) :
    Calls Tryz.prog 17 #[.pointer (some ⟨b, 0, none⟩), .string s] W fun e w' => e = .returned (.tuple #[.int .i64 s.size, .nilIface]) ∧ Hid (WSt w b cs sh (acc ++ s.data.toList) w') :=
  (writeString_calls b acc s W h.step.holds hl (by omega) (Nat.le_of_lt h.step.holds.lt)).mono fun _ _ ⟨he, hh, hw⟩ => ⟨he, h.then hb hh hw⟩

theorem WSt.byteW {w W : World} {b : Nat} {cs sh : Array Value} {acc : List UInt8} (c : UInt8) (h : WSt w b cs sh acc W) (hb : b < w.heap.size) (hl : acc.length ≤ 1000000000000) :
    Calls Tryz.prog 18 #[.pointer (some ⟨b, 0, none⟩), .int .u8 (c.toNat : Int)] W fun e w' => e = .returned .nilIface ∧ Hid (WSt w b cs sh (acc ++ [c]) w' ∧ Wrote b W w') :=
  (writeByte_calls b acc c W h.step.holds hl (Nat.le_of_lt h.step.holds.lt)).mono fun _ _ ⟨he, hh, hw⟩ => ⟨he, h.then hb hh hw, hw⟩

set_option maxRecDepth 100000 in
set_option maxHeartbeats 4000000 in
theorem writeT_var (b : Nat) (acc : List UInt8) (n : Nat) (hn : n ≤ 900000) (A : Option Addr) (c : Nat) (A' : Option Addr) (c' : Nat) (w : World) (h : Holds w b acc) (hl : acc.length ≤ 900000000000) (h3 : 5 < b) (ht : TTable w) (hp : Pow10 w) :
    Calls Tryz.prog 39 #[.pointer (some ⟨b, 0, none⟩), .agg #[.int .i64 0, .int .i64 (n : Nat), .string ⟨#[]⟩, .slice A 0 c, .slice A' 0 c']] w fun e w' => e = .returned (.tuple #[]) ∧ Holds w' b (acc ++ 35 :: Lib.decDigits n) ∧ Wrote b w w' := by
  have hb := h.lt
  have t0 : w.cell? ⟨3, 0, none⟩ = some (.string ⟨#[]⟩) := ht.word 0 (by omega)
  have t1 : w.cell? ⟨3, 1, none⟩ = some (.bool false) := ht.named 0 (by omega)
  obtain ⟨n2, t2⟩ := ht.levels 0 (by omega)
  obtain ⟨n3, t3⟩ := ht.terms 0 (by omega)
  simp only [Nat.zero_mul, Nat.zero_add] at t2 t3
  have h1 : 3 < w.heap.size := by omega
  have h0 : 0 < w.heap.size := by omega
  have H0 := hide (WSt.start h #[.int .i64 0, .int .i64 (n : Nat), .string ⟨#[]⟩, .slice A 0 c, .slice A' 0 c'] #[.string ⟨#[]⟩, .bool false, .int .i64 n2, .int .i64 n3])
  have HP := hide hp
  have h5 : (10 : Nat) ^ 6 = 1000000 := by decide
  have hdl := digits_len 5 n (by rw [h5]; omega)
  have HK := hide (fun W hW => itoa_calls n hn W hW)
  generalize hD : Lib.decDigits n = D at *
  clear h ht hp hD
  go_enter Tryz.func39, Tryz.ntmps39
  go_wp2_with (go_at_call 18; refine (WSt.byte 35 H0.out hb (by omega)).mono ?_)
  intro e w1 h9
  first | (subst h9; intro H1) | (obtain ⟨rfl, H1⟩ := h9)
  have g1 := (cells5 H1.out.tbox).2.1
  go_wp2_with (go_at_call 22; refine (HK.out _ ?_).mono ?_)
  · exact HP.out.below H1.out.step.wrote.low h3
  intro e w2 h9
  first | (subst h9; intro hb2) | (obtain ⟨rfl, hb2⟩ := h9)
  have H2 := hide (H1.out.later hb2)
  clear hb2 g1
  go_wp2_with (go_at_call 17; refine (WSt.str _ H2.out hb (by simp; omega) ?_).mono ?_)
  · show D.toArray.size ≤ 1000000; simp; omega
  intro e w3 h9
  first | (subst h9; intro H3) | (obtain ⟨rfl, H3⟩ := h9)
  go_wp2_with fail
  refine bodyPost_ret (v := .tuple #[]) (by simp [results, Tryz.results39, go_sem]) rfl ?_
  exact ⟨rfl, by simpa [List.append_assoc] using H3.out.step.holds, H3.out.step.wrote⟩

set_option maxRecDepth 100000 in
set_option maxHeartbeats 8000000 in
theorem writeT_node (t : Tm) (hk : t.kd ≠ 0) (d B b : Nat) (acc : List UInt8) (A : Option Addr) (c : Nat) (A' : Option Addr) (c' : Nat) (w : World) (hwf : WfT (d + 1) t) (hB : B ≤ b) (h3 : 5 < b) (h : Holds w b acc) (hl : acc.length + (textT (d + 1) t).length ≤ 900000000000) (htb : Table w) (ht : TTable w)
    (hls : LvsIn w (fun b => b < B) A t.ls) (hts : ∀ i (hi : i < t.ts.length), ∃ b x, A' = some ⟨b, 0, none⟩ ∧ b < B ∧ Five w b (i * 5) x ∧ InTm w (fun b => b < B) d t.ts[i] x)
    (ih : ∀ k (hk : k < t.ts.length) (v : Value) (acc' : List UInt8) (W : World), InTm W (fun b => b < B) d t.ts[k] v → Holds W b acc' → acc'.length + (textT d t.ts[k]).length ≤ 900000000000 → Below b w W → Calls Tryz.prog 39 #[.pointer (some ⟨b, 0, none⟩), v] W fun e w' => e = .returned (.tuple #[]) ∧ Holds w' b (acc' ++ textT d t.ts[k]) ∧ Wrote b W w') :
    Calls Tryz.prog 39 #[.pointer (some ⟨b, 0, none⟩), .agg #[.int .i64 (t.kd : Nat), .int .i64 (t.n : Nat), .string t.nm, .slice A t.ls.length c, .slice A' t.ts.length c']] w fun e w' => e = .returned (.tuple #[]) ∧ Holds w' b (acc ++ textT (d + 1) t) ∧ Wrote b w w' := by
  have hE : textT (d + 1) t = t.open_ ++ spaced Lv.text t.ls ++ spaced (textT d) t.ts ++ [41] := by simp only [textT, if_neg hk]
  rw [hE] at hl ⊢
  obtain ⟨a1, a2, a3, a4, a5, a6, a7, a8, a9, a10⟩ := hwf
  have h3t : t.ts.length ≤ 3 := by rw [a8]; exact tparts_le _
  have hb := h.lt
  have t0 := ht.word t.kd a1
  have t1 := ht.named t.kd a1
  obtain ⟨n2, t2⟩ := ht.levels t.kd a1
  obtain ⟨n3, t3⟩ := ht.terms t.kd a1
  have h1 : 3 < w.heap.size := by omega
  have h0 : 0 < w.heap.size := by omega
  have hk7 : t.kd < 7 := by omega
  have hwl := tword_size t.kd
  have hne : ((tword t.kd).toList == []) = false := by
    have h9 : tword t.kd ≠ ⟨#[]⟩ := by
      have : t.kd = 1 ∨ t.kd = 2 ∨ t.kd = 3 ∨ t.kd = 4 ∨ t.kd = 5 ∨ t.kd = 6 := by omega
      rcases this with e | e | e | e | e | e <;> rw [e] <;> decide
    simpa using sameStr_neg h9
  have hlen : acc.length + (t.open_.length + (spaced Lv.text t.ls).length + (spaced (textT d) t.ts).length + 1) ≤ 900000000000 := by simpa [Nat.add_assoc] using hl
  have H0 := hide (WSt.start h #[.int .i64 (t.kd : Nat), .int .i64 (t.n : Nat), .string t.nm, .slice A t.ls.length c, .slice A' t.ts.length c'] #[.string (tword t.kd), .bool (decide (t.kd = 2)), .int .i64 n2, .int .i64 n3])
  have HLs := hide hls
  have HTs := hide hts
  have IH := hide ih
  have HTb := hide htb
  have H9 := hide a9
  clear h ht hls hts ih htb a3 a4 a5 a8 a9 a10 hl hE
  obtain ⟨q, hq⟩ : ∃ q, q = decide (t.kd = 2) := ⟨_, rfl⟩
  have HOp : Hid ((q = true ∧ t.open_ = [40] ++ (tword t.kd).data.toList ++ [32] ++ t.nm.data.toList) ∨ (q = false ∧ t.open_ = [40] ++ (tword t.kd).data.toList)) := by
    by_cases h2 : t.kd = 2
    · exact .inl ⟨by rw [hq]; simp [h2], by simp [Tm.open_, h2]⟩
    · exact .inr ⟨by rw [hq]; simp [h2], by simp [Tm.open_, h2]⟩
  rw [← hq] at t1 H0
  clear hq
  have hol : (tword t.kd).data.toList.length ≤ 5 := by rw [Array.length_toList]; exact hwl
  generalize tword t.kd = wd at *
  go_enter Tryz.func39, Tryz.ntmps39
  go_wp2_with (go_at_call 18; refine (WSt.byte 40 H0.out hb (by omega)).mono ?_)
  intro e w1 h9
  first | (subst h9; intro H1) | (obtain ⟨rfl, H1⟩ := h9)
  have hs1 := H1.out.sbox
  have s0 : w1.cell? ⟨w.heap.size + 1, 0, none⟩ = some (.string wd) := by simp [World.cell?, hs1]
  clear hs1 H0
  go_wp2_with (go_at_call 17; refine (WSt.str wd H1.out hb (by simp; omega) (by omega)).mono ?_)
  intro e w2 h9
  first | (subst h9; intro H2) | (obtain ⟨rfl, H2⟩ := h9)
  have hs2 := H2.out.sbox
  have s1 : w2.cell? ⟨w.heap.size + 1, 1, none⟩ = some (.bool q) := by simp [World.cell?, hs2]
  have g2 := (cells5 H2.out.tbox).2.2.1
  have g3 := (cells5 H2.out.tbox).2.2.2.1
  clear hs2 H1 s0
  rcases HOp.out with ⟨rfl, hop⟩ | ⟨rfl, hop⟩
  case' inl =>
    have hnl : t.nm.data.toList.length ≤ 1000 := by rw [Array.length_toList]; exact a6
    go_wp2_with (go_at_call 18; refine (WSt.byte 32 H2.out hb (by simp; omega)).mono ?_)
    intro e w4 h9
    first | (subst h9; intro H4) | (obtain ⟨rfl, H4⟩ := h9)
    clear g2 g3 s1
    have g2 := (cells5 H4.out.tbox).2.2.1
    go_wp2_with (go_at_call 17; refine (WSt.str t.nm H4.out hb (by simp; omega) (by omega)).mono ?_)
    intro e W3 h9
    first | (subst h9; intro H5) | (obtain ⟨rfl, H5⟩ := h9)
    have HS : Hid (WSt w b #[.int .i64 (t.kd : Nat), .int .i64 (t.n : Nat), .string t.nm, .slice A t.ls.length c, .slice A' t.ts.length c'] #[.string wd, .bool true, .int .i64 n2, .int .i64 n3] (acc ++ t.open_ ++ spaced Lv.text (t.ls.take 0)) W3) := by
      have h8 := H5.out
      rw [hop]
      simpa [Hid, spaced, List.append_assoc] using h8
    clear H2 H4 H5 hop HOp g2
  case' inr =>
    obtain ⟨W3, hW3⟩ : ∃ W, W = w2 := ⟨_, rfl⟩
    subst hW3
    have HS : Hid (WSt w b #[.int .i64 (t.kd : Nat), .int .i64 (t.n : Nat), .string t.nm, .slice A t.ls.length c, .slice A' t.ts.length c'] #[.string wd, .bool false, .int .i64 n2, .int .i64 n3] (acc ++ t.open_ ++ spaced Lv.text (t.ls.take 0)) W3) := by
      have h8 := H2.out
      rw [hop]
      simpa [Hid, spaced, List.append_assoc] using h8
    clear H2 hop HOp g2 g3
  all_goals
    have g3 := (cells5 HS.out.tbox).2.2.2.1
    go_wp2_with fail
    obtain ⟨sh, HS'⟩ : ∃ sh, Hid (WSt w b #[.int .i64 (t.kd : Nat), .int .i64 (t.n : Nat), .string t.nm, .slice A t.ls.length c, .slice A' t.ts.length c'] sh (acc ++ t.open_ ++ spaced Lv.text (t.ls.take 0)) W3) := ⟨_, HS⟩
    clear HS
    go_loopg [48] (t.ls.length) (fun g i wr => ∃ k : Nat, k + g = t.ls.length ∧ i = .int .i64 k ∧ Hid (WSt w b #[.int .i64 (t.kd : Nat), .int .i64 (t.n : Nat), .string t.nm, .slice A t.ls.length c, .slice A' t.ts.length c'] sh (acc ++ t.open_ ++ spaced Lv.text (t.ls.take k)) wr))
    case atStart => exact ⟨0, by omega, rfl, HS'⟩
    case round =>
      obtain ⟨k, hkg, rfl, HR⟩ := hrel
      have hlb := HR.out.step.holds.lt
      have hsl := spaced_le Lv.text t.ls k
      have hln : (acc ++ t.open_ ++ spaced Lv.text (t.ls.take k)).length = acc.length + t.open_.length + (spaced Lv.text (t.ls.take k)).length := by simp only [List.length_append]
      by_cases hlt : k < t.ls.length
      · obtain ⟨b1, x, rfl, hbB, h5, hin⟩ := HLs.out k hlt
        obtain ⟨kk, nm', A3, n', cap', rfl, e0, e1, e2⟩ := h5
        have d0 := (HR.out.step.wrote.low.cell (p := ⟨b1, k * 3, none⟩) (by show b1 < b; omega)).trans e0
        have d1 := (HR.out.step.wrote.low.cell (p := ⟨b1, k * 3 + 1, none⟩) (by show b1 < b; omega)).trans e1
        have d2 := (HR.out.step.wrote.low.cell (p := ⟨b1, k * 3 + 2, none⟩) (by show b1 < b; omega)).trans e2
        have hbw : b1 < wr.heap.size := by omega
        have hst := spaced_succ Lv.text t.ls k hlt
        have hsl2 := spaced_le Lv.text t.ls (k + 1)
        rw [hst] at hsl2
        simp only [List.length_append, List.length_cons, List.length_nil] at hsl2
        have HSn := hide hst
        have HA := hide (HR.out.later ((Below.refl _ _).alloc (Nat.le_refl _) (.cells #[.int .i64 kk, .string nm', .slice A3 n' cap'] 94)))
        have HX3 := hide (heap_alloc_new wr (.cells #[.int .i64 kk, .string nm', .slice A3 n' cap'] 94))
        have HI := hide hin.inLvBel
        have hwsz : w.heap.size < wr.heap.size := (Array.getElem?_eq_some_iff.1 HR.out.tbox).1
        clear e0 e1 e2 hin g3 hst
        go_wp2_with (go_at_call 18; refine (WSt.byteW 32 HA.out hb (by omega)).mono ?_)
        intro e w3 h9
        first | (subst h9; intro H3) | (obtain ⟨rfl, H3⟩ := h9)
        obtain ⟨p0, p1, p2⟩ := box_cells (H3.out.2.box HX3.out (by omega))
        have hln3 : (acc ++ t.open_ ++ spaced Lv.text (t.ls.take k) ++ [32]).length + (Lv.text t.ls[k]).length ≤ 900000000000 := by
          rw [List.length_append, hln]
          simp only [List.length_singleton]
          omega
        have HQ := hide (write_calls (t.ls[k]).nodes t.ls[k] _ B b _ w3 (Nat.le_refl _) hB (by omega) (HI.out.below (H3.out.1.step.wrote.low.mono hB)) (H9.out _ (List.getElem_mem hlt)).2 H3.out.1.step.holds hln3 (HTb.out.below H3.out.1.step.wrote.low (by omega)))
        clear d0 d1 d2 HA
        go_wp2_with (go_at_call 69; refine HQ.out.mono ?_)
        rintro e w4 ⟨rfl, hh, hw⟩
        have H4 := hide (H3.out.1.then hb hh hw)
        clear hh hw p0 p1 p2
        go_wp2_with fail
        go_roundg (t.ls.length - (k + 1))
        case measure => omega
        case rel => exact ⟨k + 1, by omega, by go_num, by rw [HSn.out]; simpa [List.append_assoc] using H4⟩
      · have hke : k = t.ls.length := by omega
        subst hke
        rw [List.take_length] at HR
        clear g3 hsl hln HS'
        have hPl : (acc ++ t.open_ ++ spaced Lv.text t.ls).length + (spaced (textT d) t.ts).length + 1 ≤ 900000000000 := by simp only [List.length_append]; omega
        generalize hPe : acc ++ t.open_ ++ spaced Lv.text t.ls = P at *
        have HPe := hide hPe
        clear hPe
        have g4 := (cells5 HR.out.tbox).2.2.2.2
        obtain ⟨W5, hW5⟩ : ∃ W, W = wr := ⟨_, rfl⟩
        subst hW5
        go_wp2_with fail
        go_loopg [61] (t.ts.length) (fun g i wr => ∃ k : Nat, k + g = t.ts.length ∧ i = .int .i64 k ∧ Hid (WSt w b #[.int .i64 (t.kd : Nat), .int .i64 (t.n : Nat), .string t.nm, .slice A t.ls.length c, .slice A' t.ts.length c'] sh (P ++ spaced (textT d) (t.ts.take k)) wr))
        case atStart => exact ⟨0, by omega, rfl, by simpa [spaced] using HR⟩
        case round =>
          clear g4 HR hlb
          obtain ⟨k, hkg2, rfl, HR⟩ := hrel
          have hlb := HR.out.step.holds.lt
          have hsl := spaced_le (textT d) t.ts k
          have hln : (P ++ spaced (textT d) (t.ts.take k)).length = P.length + (spaced (textT d) (t.ts.take k)).length := by simp only [List.length_append]
          by_cases hlt2 : k < t.ts.length
          · obtain ⟨b1, x, rfl, hbB, h5, hin⟩ := HTs.out k hlt2
            obtain ⟨kk, nn, nm', A3, n', cap', A5, n5, cap5, rfl, e0, e1, e2, e3, e4⟩ := h5
            have d0 := (HR.out.step.wrote.low.cell (p := ⟨b1, k * 5, none⟩) (by show b1 < b; omega)).trans e0
            have d1 := (HR.out.step.wrote.low.cell (p := ⟨b1, k * 5 + 1, none⟩) (by show b1 < b; omega)).trans e1
            have d2 := (HR.out.step.wrote.low.cell (p := ⟨b1, k * 5 + 2, none⟩) (by show b1 < b; omega)).trans e2
            have d3 := (HR.out.step.wrote.low.cell (p := ⟨b1, k * 5 + 3, none⟩) (by show b1 < b; omega)).trans e3
            have d4 := (HR.out.step.wrote.low.cell (p := ⟨b1, k * 5 + 4, none⟩) (by show b1 < b; omega)).trans e4
            have hbw : b1 < wr.heap.size := by omega
            have hst := spaced_succ (textT d) t.ts k hlt2
            have hsl2 := spaced_le (textT d) t.ts (k + 1)
            rw [hst] at hsl2
            simp only [List.length_append, List.length_cons, List.length_nil] at hsl2
            have HSn := hide hst
            have HA := hide (HR.out.later ((Below.refl _ _).alloc (Nat.le_refl _) (.cells #[.int .i64 kk, .int .i64 nn, .string nm', .slice A3 n' cap', .slice A5 n5 cap5] 43)))
            have HX3 := hide (heap_alloc_new wr (.cells #[.int .i64 kk, .int .i64 nn, .string nm', .slice A3 n' cap', .slice A5 n5 cap5] 43))
            have HI := hide hin
            clear e0 e1 e2 e3 e4 hin hst
            go_wp2_with (go_at_call 18; refine (WSt.byteW 32 HA.out hb (by omega)).mono ?_)
            intro e w3 h9
            first | (subst h9; intro H3) | (obtain ⟨rfl, H3⟩ := h9)
            obtain ⟨p0, p1, p2, p3, p4⟩ := cells5 (H3.out.2.boxA HX3.out (by omega) (by decide))
            have hln3 : (P ++ spaced (textT d) (t.ts.take k) ++ [32]).length + (textT d t.ts[k]).length ≤ 900000000000 := by
              rw [List.length_append, hln]
              simp only [List.length_singleton]
              omega
            have HQ := hide (IH.out k hlt2 _ _ w3 (HI.out.keep fun b' _ hS => ⟨hS, H3.out.1.step.wrote.low.block b' (by omega)⟩) H3.out.1.step.holds hln3 H3.out.1.step.wrote.low)
            clear d0 d1 d2 d3 d4 HA
            go_wp2_with (go_at_call 39; refine HQ.out.mono ?_)
            rintro e w4 ⟨rfl, hh, hw⟩
            have H4 := hide (H3.out.1.then hb hh hw)
            clear hh hw p0 p1 p2 p3 p4
            go_wp2_with fail
            go_roundg (t.ts.length - (k + 1))
            case measure => omega
            case rel => exact ⟨k + 1, by omega, by go_num, by rw [HSn.out]; simpa [List.append_assoc] using H4⟩
          · have hke : k = t.ts.length := by omega
            subst hke
            rw [List.take_length] at HR
            clear hsl hln
            go_wp2_with (go_at_call 18; refine (WSt.byteW 41 HR.out hb (by simp only [List.length_append]; omega)).mono ?_)
            intro e w3 h9
            first | (subst h9; intro H3) | (obtain ⟨rfl, H3⟩ := h9)
            have HF : Hid (Holds w3 b (acc ++ (t.open_ ++ spaced Lv.text t.ls ++ spaced (textT d) t.ts ++ [41])) ∧ Wrote b w w3) := by
              have e := H3.out.1.step.holds
              rw [← HPe.out] at e
              exact ⟨by simpa [List.append_assoc] using e, H3.out.1.step.wrote⟩
            clear H3 HR
            go_wp2_with fail
            go_end0
            exact ⟨rfl, HF.out.1, HF.out.2⟩

theorem writeT_calls (B b : Nat) (hB : B ≤ b) (h3 : 5 < b) : ∀ (d : Nat) (t : Tm) (v : Value) (acc : List UInt8) (w : World), WfT d t → InTm w (fun b => b < B) d t v → Holds w b acc → acc.length + (textT d t).length ≤ 900000000000 → Table w → TTable w → Pow10 w →
    Calls Tryz.prog 39 #[.pointer (some ⟨b, 0, none⟩), v] w fun e w' => e = .returned (.tuple #[]) ∧ Holds w' b (acc ++ textT d t) ∧ Wrote b w w'
  | 0, _, _, _, _, h, _, _, _, _, _, _ => absurd h (by simp [WfT])
  | d + 1, t, v, acc, w, hwf, hin, hh, hl, htb, ht, hp => by
    obtain ⟨A, c, A', c', rfl, hls, hts⟩ := hin
    by_cases hk : t.kd = 0
    · obtain ⟨z1, z2, z3⟩ := hwf.2.2.1 hk
      have e : textT (d + 1) t = 35 :: Lib.decDigits t.n := by simp only [textT, if_pos hk]
      rw [e, hk, z1, z2, z3]
      exact writeT_var b acc t.n hwf.2.1 A c A' c' w hh (by omega) h3 ht hp
    · exact writeT_node t hk d B b acc A c A' c' w hwf hB h3 hh hl htb ht hls hts fun k hk2 v acc' W h1 h2 h4 h5 =>
        writeT_calls B b hB h3 d t.ts[k] v acc' W (hwf.2.2.2.2.2.2.2.2.2 k hk2) h1 h2 h4 (htb.below h5 (by omega)) (ht.below h5 (by omega)) (hp.below h5 h3)

set_option maxRecDepth 100000 in
set_option maxHeartbeats 2000000 in
theorem printT_calls (d : Nat) (t : Tm) (v : Value) (w : World) (hwf : WfT d t) (hin : InTm w (fun _ => True) d t v) (hl : (textT d t).length ≤ 850000000000) (htb : Table w) (ht : TTable w) (hp : Pow10 w) (h3 : 5 < w.heap.size) :
    Calls Tryz.prog 23 #[v] w fun e w' => e = .returned (.string ⟨(textT d t).toArray⟩) ∧ Below w.heap.size w w' := by
  obtain ⟨k, n, nm, A, la, lc, A', ta, tc, rfl⟩ := hin.form
  have hold : Below w.heap.size w ((w.alloc (.cells #[.int .i64 k, .int .i64 n, .string nm, .slice A la lc, .slice A' ta tc] 43)).alloc (.cells #[.pointer none, .slice none 0 0] 55)) := ((Below.refl _ _).alloc (Nat.le_refl _) _).alloc (by simp) _
  have hH : Holds ((w.alloc (.cells #[.int .i64 k, .int .i64 n, .string nm, .slice A la lc, .slice A' ta tc] 43)).alloc (.cells #[.pointer none, .slice none 0 0] 55)) (w.heap.size + 1) [] := by
    have := Holds.new (w.alloc (.cells #[.int .i64 k, .int .i64 n, .string nm, .slice A la lc, .slice A' ta tc] 43))
    simpa using this
  have K1 := hide (writeT_calls w.heap.size (w.heap.size + 1) (by omega) (by omega) d t _ [] _ hwf (hin.inside.keep fun b hb hS => ⟨hS, hold.block b hb⟩) hH (by simp; omega) (htb.below hold (by omega)) (ht.below hold (by omega)) (hp.below hold h3))
  have HO := hide hold
  clear hold hH hin
  go_enter Tryz.func23, Tryz.ntmps23
  go_wp2_with (go_at_call 39; refine K1.out.mono ?_)
  rintro e w1 ⟨rfl, hh, hw⟩
  simp only [List.nil_append] at hh
  have K2 := hide (string_calls (w.heap.size + 1) (textT d t) w1 hh)
  have HB := hide (HO.out.trans (hw.low.mono (by omega)))
  clear hh hw K1
  go_wp2_with (go_at_call 19; refine K2.out.mono ?_)
  intro e w2 h9
  first | (subst h9; intro hb2) | (obtain ⟨rfl, hb2⟩ := h9)
  have HB2 := hide (HB.out.trans (hb2.mono (by omega)))
  clear hb2
  go_wp2_with fail
  go_ret
  exact ⟨rfl, HB2.out⟩

end Go.Proofs.YtjlibnijecdgcaaGreatDoor
