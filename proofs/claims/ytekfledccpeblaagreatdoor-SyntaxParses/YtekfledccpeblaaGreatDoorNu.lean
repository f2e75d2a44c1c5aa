/- The tables; the contract of the scanner's number. -/
import Derived.Test.YtekfledccpeblaaGreatDoorItl

namespace Go.Proofs.YtekfledccpeblaaGreatDoor
open Go.RowKit Go.Shelf

def ErrVar (w : World) (b : Nat) : Prop := ∃ ev, w.cell? ⟨b, 0, none⟩ = some ev ∧ (ev = .nilIface ∨ ∃ te pe, ev = .iface te pe)
theorem ErrVar.of_block {w w' : World} {b : Nat} (h : ErrVar w b) (hb : w'.heap[b]? = w.heap[b]?) : ErrVar w' b := by
  obtain ⟨ev, h1, h2⟩ := h
  exact ⟨ev, (World.cell?_of_block hb).trans h1, h2⟩
/-- The table of powers of ten lies there. -/
def Pow10 (w : World) : Prop := Lib.TabIs Tryz.prog w "internal/strconv.uint64pow10" .u64 Lib.pow10Tab
theorem grown_below (w : World) (k : Nat) (os : Array Obj) : Below w.heap.size w (Go.Sort.grow (w.drewN k) os) := by
  refine ⟨rfl, rfl, rfl, ?_, fun j hj => ?_⟩
  · show w.heap.size ≤ (w.heap ++ os).size
    simp
  · show (w.heap ++ os)[j]? = w.heap[j]?
    exact Array.getElem?_append_left hj
theorem globalPow : Tryz.prog.globalNamed "internal/strconv.uint64pow10" = some 8 := by kernel_rfl
theorem Pow10.of_block {w w' : World} (h : Pow10 w) (hb : w'.heap[8]? = w.heap[8]?) : Pow10 w' := by
  unfold Pow10 Lib.TabIs World.var? at *
  simp only [globalPow, Option.bind_some] at h ⊢
  rw [hb]
  exact h
abbrev cwv : List Value := [.string ⟨#[]⟩, .string ⟨#[97, 120, 105, 111, 109]⟩, .string ⟨#[100, 101, 102]⟩, .string ⟨#[116, 104, 101, 111, 114, 101, 109]⟩, .string ⟨#[105, 110, 100, 117, 99, 116, 105, 118, 101]⟩]
abbrev tsv : List Value := [.bool false, .bool false, .bool false, .bool false, .bool false, .bool true, .bool false, .bool false, .bool false, .bool false, .bool false, .bool true, .bool false, .bool false, .bool false, .bool true, .bool false, .bool false, .bool false, .bool false, .bool false, .bool false, .bool false, .bool false, .bool true, .bool false, .bool false, .bool false, .bool true, .bool false, .bool false, .bool false, .bool false, .bool false, .bool false, .bool true, .bool true, .bool false, .bool false, .bool true, .bool false, .bool false, .bool true, .bool false, .bool false, .bool false, .bool false, .bool true, .bool false, .bool false, .bool false, .bool false, .bool false, .bool false, .bool false, .bool false]
/-- All tables lie there. -/
structure Tb (w : World) : Prop where
  sg : SgT w
  cw : w.rangeAt 2 0 cwv
  ts : w.rangeAt 4 0 tsv
  es : ErrVar w 6
  er : ErrVar w 7
  pw : Pow10 w
  lt : 10 < w.heap.size
theorem range_of_block {w w' : World} {b : Nat} {l : List Value} (h : w.rangeAt b 0 l) (hb : w'.heap[b]? = w.heap[b]?) : w'.rangeAt b 0 l := fun j v e => (World.cell?_of_block (w := w) hb).trans (h j v e)
theorem Tb.of_blocks {w w' : World} (h : Tb w) (hb : ∀ k, k ≤ 10 → w'.heap[k]? = w.heap[k]?) (hl : w.heap.size ≤ w'.heap.size) : Tb w' :=
  ⟨h.sg.of_block (hb 3 (by omega)), range_of_block h.cw (hb 2 (by omega)), range_of_block h.ts (hb 4 (by omega)), h.es.of_block (hb 6 (by omega)), h.er.of_block (hb 7 (by omega)), h.pw.of_block (hb 8 (by omega)), Nat.lt_of_lt_of_le h.lt hl⟩
theorem Tb.touched {w w' : World} {rb : Nat} (h : Tb w) (ht : Touched w rb w') (hr : 10 < rb) : Tb w' := h.of_blocks (fun k hk => ht.at (by have := h.lt; omega) (by omega)) ht.size
theorem Tb.later {w w' : World} (h : Tb w) (hb : Below w.heap.size w w') : Tb w' := h.of_blocks (fun k hk => hb.block k (by have := h.lt; omega)) hb.size

theorem itoa_calls (n : Nat) (hn : n ≤ 900000) (w : World) (ht : Pow10 w) :
    Calls Tryz.prog 106 #[.int .i64 (n : Nat)] w fun e w' => e = .returned (.string ⟨(Lib.decDigits n).toArray⟩) ∧ Below w.heap.size w w' :=
  (Any.strconv_Itoa itLays (n : Int) (by omega) (by omega) w ht).mono fun e w' ⟨he, k, os, hw⟩ => ⟨by rw [he, Lib.itoa_nonneg], by rw [hw]; exact grown_below _ _ _⟩

theorem digits_uint : ∀ (l : List UInt8) (acc : Nat), (∀ c ∈ l, 48 ≤ c.toNat ∧ c.toNat ≤ 57) → (∃ u, Lib.parseUint10 acc l = .ok u) ∨ Lib.parseUint10 acc l = .range
  | [], acc, _ => .inl ⟨acc, rfl⟩
  | c :: r, acc, h => by
    simp only [Lib.parseUint10]
    rw [if_pos (h c (by simp))]
    split
    · exact .inr rfl
    · split
      · exact .inr rfl
      · exact digits_uint r _ fun x hx => h x (by simp [hx])
theorem digits_int (l : List UInt8) (h : ∀ c ∈ l, 48 ≤ c.toNat ∧ c.toNat ≤ 57) (hne : l ≠ []) : (∃ v : Nat, Lib.atoiAll l = .ok (v : Int)) ∨ Lib.atoiAll l = .range := by
  cases l with
  | nil => exact absurd rfl hne
  | cons c r =>
    have hc := h c (by simp)
    rw [Lib.atoiAll_plain c r (by omega) (by omega)]
    unfold Lib.parseMag
    rw [if_neg (by simp)]
    rcases digits_uint (c :: r) 0 h with ⟨u, e⟩ | e
    · rw [e]
      unfold Lib.signless
      dsimp only
      split
      · exact .inr rfl
      · exact .inl ⟨_, rfl⟩
    · rw [e]; exact .inr rfl
theorem parse_bad (c : UInt8) (r : List UInt8) (acc : Nat) (h : ¬ (48 ≤ c.toNat ∧ c.toNat ≤ 57)) : Lib.parseUint10 acc (c :: r) = .syntax := by simp only [Lib.parseUint10]; rw [if_neg h]
theorem notNum_atoi {t : ByteArray} (h : NotNum t) : Lib.atoiAll t.data.toList = .syntax := by
  cases hl : t.data.toList with
  | nil => rfl
  | cons c r =>
    have hz : t.size = r.length + 1 := by
      have := congrArg List.length hl
      simpa using this
    have h0 : at_ t 0 = c.toNat := by rw [at_data t 0 (by omega)]; simp [hl]
    rcases h with h | ⟨h1, h2⟩
    · omega
    rw [h0] at h1 h2
    have hd : ¬ (48 ≤ c.toNat ∧ c.toNat ≤ 57) := by simpa [digitB] using h1
    by_cases hs : c.toNat = 43 ∨ c.toNat = 45
    · have hr : Lib.parseMag r = .syntax := by
        cases r with
        | nil => rfl
        | cons d q =>
          have h01 : at_ t 1 = d.toNat := by rw [at_data t 1 (by simp at hz; omega)]; simp [hl]
          have : digitB d.toNat = false := by
            rcases h2 with h2 | h2 | h2
            · simp at hz; omega
            · rw [← h01]; exact h2
            · omega
          unfold Lib.parseMag
          rw [if_neg (by simp)]
          exact parse_bad d q 0 (by simpa [digitB] using this)
      unfold Lib.atoiAll
      simp only
      rw [if_pos hs, hr]
    · rw [Lib.atoiAll_plain c r (by omega) (by omega)]
      unfold Lib.parseMag
      rw [if_neg (by simp), parse_bad c r 0 hd]
      rfl
theorem small_nums : ∀ k, k < 100 → (decide (Lib.atoiAll (Lib.decDigits k) = .ok (k : Int)) && decide ((Lib.decDigits k).length ≤ 2) && (decide ((Lib.decDigits k).length ≠ 2) || decide ((Lib.decDigits k).head? ≠ some 48)) && decide (decF 0 (Lib.decDigits k) = k)) = true := by decide +kernel
theorem two_digs : ∀ a b : Fin 10, (decide (Lib.decDigits (a.val * 10 + b.val) = [UInt8.ofNat (48 + a.val), UInt8.ofNat (48 + b.val)]) || decide (a.val = 0)) = true := by decide +kernel
theorem one_dig : ∀ a : Fin 10, decide (Lib.decDigits a.val = [UInt8.ofNat (48 + a.val)]) = true := by decide +kernel
theorem byte_of {c : UInt8} (h : 48 ≤ c.toNat ∧ c.toNat ≤ 57) : c = UInt8.ofNat (48 + (c.toNat - 48)) := by
  rw [show 48 + (c.toNat - 48) = c.toNat by omega]; simp
theorem decV_one {t : ByteArray} {c : UInt8} (hl : t.data.toList = [c]) : decV t = c.toNat - 48 := by
  have e : decV t = decF 0 [c] := congrArg (decF 0) hl
  rw [e]
  show 0 * 10 + (c.toNat - 48) = c.toNat - 48
  rw [Nat.zero_mul, Nat.zero_add]
theorem decV_two {t : ByteArray} {c d : UInt8} (hl : t.data.toList = [c, d]) : decV t = (c.toNat - 48) * 10 + (d.toNat - 48) := by
  have e : decV t = decF 0 [c, d] := congrArg (decF 0) hl
  rw [e]
  show (0 * 10 + (c.toNat - 48)) * 10 + (d.toNat - 48) = _
  rw [Nat.zero_mul, Nat.zero_add]
/-- A number as the language has it: its digits are those of what it means. -/
theorem num_canon {t : ByteArray} (hd : Digs t) (h0 : 0 < t.size) (h2 : t.size ≤ 2) (hz : ¬ (t.size = 2 ∧ at_ t 0 = 48)) : decV t < 100 ∧ Lib.decDigits (decV t) = t.data.toList ∧ Lib.atoiAll t.data.toList = .ok (decV t : Int) := by
  have hlen : t.data.toList.length = t.size := by simp
  have key : decV t < 100 ∧ Lib.decDigits (decV t) = t.data.toList := by
    match hl : t.data.toList with
    | [] => rw [hl] at hlen; simp at hlen; omega
    | [c] =>
      have hc := hd c (by rw [hl]; simp)
      have hv : decV t = c.toNat - 48 := decV_one hl
      have := one_dig ⟨c.toNat - 48, by omega⟩
      simp only [decide_eq_true_eq] at this
      rw [hv, this, ← byte_of hc]
      exact ⟨by omega, rfl⟩
    | [c, d] =>
      have hc := hd c (by rw [hl]; simp)
      have hd' := hd d (by rw [hl]; simp)
      have hv : decV t = (c.toNat - 48) * 10 + (d.toNat - 48) := decV_two hl
      have h48 : c.toNat ≠ 48 := fun e => hz ⟨by rw [hl] at hlen; simp at hlen; omega, by rw [at_data t 0 h0]; simp [hl, e]⟩
      have := two_digs ⟨c.toNat - 48, by omega⟩ ⟨d.toNat - 48, by omega⟩
      simp only [Bool.or_eq_true, decide_eq_true_eq] at this
      rcases this with this | this
      · rw [hv, this, ← byte_of hc, ← byte_of hd']
        exact ⟨by omega, rfl⟩
      · omega
    | c :: d :: e :: r => rw [hl] at hlen; simp at hlen; omega
  refine ⟨key.1, key.2, ?_⟩
  have := small_nums _ key.1
  simp only [Bool.and_eq_true, decide_eq_true_eq] at this
  rw [← key.2]
  exact this.1.1.1
/-- Digits that are no such number are not written so. -/
theorem num_odd {t : ByteArray} (h : 2 < t.size ∨ (t.size = 2 ∧ at_ t 0 = 48)) {k : Nat} (hk : k < 100) : (⟨(Lib.decDigits k).toArray⟩ : ByteArray) ≠ t := by
  rintro rfl
  have := small_nums k hk
  simp only [Bool.and_eq_true, decide_eq_true_eq, Bool.or_eq_true] at this
  obtain ⟨⟨⟨_, h2⟩, h3⟩, _⟩ := this
  have hz : (⟨(Lib.decDigits k).toArray⟩ : ByteArray).size = (Lib.decDigits k).length := by show (Lib.decDigits k).toArray.size = _; simp
  rw [hz] at h
  rcases h with h | ⟨h, h4⟩
  · omega
  · rcases h3 with h3 | h3
    · exact h3 h
    · apply h3
      cases hl : Lib.decDigits k with
      | nil => rw [hl] at h; simp at h
      | cons c r =>
        have : at_ (⟨(Lib.decDigits k).toArray⟩ : ByteArray) 0 = c.toNat := by
          rw [at_data _ 0 (by rw [hz, hl]; simp)]
          simp [hl]
        rw [this] at h4
        simp
        exact UInt8.toNat_inj.1 h4

/-- A world in which the blocks below n are as they were. -/
structure Later (n : Nat) (W0 : World) where
  W : World
  h : Below n W0 W

theorem Later.some (n : Nat) (W0 : World) : Nonempty (Later n W0) := ⟨⟨W0, Below.refl _ _⟩⟩

theorem wp_region_later {P : Program} {id : Nat} {Q : Exit → Act → World → Prop} {a : Act} {w : World} {l : List Oper} (hm : P.follows .mixedOrders = true) (hB : Region.lexB .any l.toArray = true) {n : Nat} {W0 : World} (hw : Below n W0 w)
    (h : wpQuiet P l.toArray (fun w' => ∃ x : Later n W0, w' = x.W) (fun a' => ∀ w', (∃ x : Later n W0, w' = x.W) → Q .normal a' w') l a) : (Code.region id l.toArray true).wp P Q a w :=
  wp_region_quiet (C := fun w' => ∃ x : Later n W0, w' = x.W) hm hB ⟨⟨w.drew, hw.drew⟩, rfl⟩ (by simpa using h)

/-- A contract, as such a walk wants it. -/
theorem Later.calls {n : Nat} {W0 : World} {f : FuncId} {args : Array Value} {r : Value} (h : ∀ W, Below n W0 W → Calls Tryz.prog f args W fun e w' => e = .returned r ∧ Below W.heap.size W w') (hn : n ≤ W0.heap.size) (x : Later n W0) :
    Calls Tryz.prog f args x.W fun e w' => e = .returned r ∧ ∃ y : Later n W0, w' = y.W :=
  (h x.W x.h).mono fun _ w' ⟨he, hb⟩ => ⟨he, ⟨w', x.h.trans (hb.mono (Nat.le_trans hn x.h.size))⟩, rfl⟩

/-- A number of at most that is taken. -/
def numF (s : ByteArray) (most : Nat) (st : FS) : FS := if st.kin 2 = true ∧ decV st.t.t ≤ most then st.step s else st.fail
theorem FS.Ok.few {s : ByteArray} {st : FS} (h : st.Ok s) : st.t.t.size ≤ 40 := by obtain ⟨p, h⟩ := h.tok; exact h.few

set_option maxRecDepth 100000 in
set_option maxHeartbeats 4000000 in
theorem number_calls (rb : Nat) (mv : Value) (s : ByteArray) (st : FS) (w : World) (h : RdS w rb mv s st) (hs : s.size ≤ 200000) (ho : st.Ok s) (ht : Tb w) (hb : 10 < rb) (most : Nat) (hm : most ≤ 99) :
    Calls Tryz.prog 97 #[.pointer (some ⟨rb, 0, none⟩), .int .i64 (most : Nat)] w fun e w' => RP w rb mv s (numF s most st) (fun e _ => e = .returned (.int .i64 (decV st.t.t : Nat))) e w' := by
  have H := hide h
  have hc := h.code
  obtain ⟨h0, c, k, t, r, h, hp, hts⟩ := h
  have c3 := h.c3
  have hl := h.lt
  have HT := hide ht
  have HO := hide ho
  have HBN : Hid (∀ (W : World), Below w.heap.size w W → RdS W rb mv s st ∧ Tb W) := fun W hb => ⟨H.out.later hb, HT.out.later hb⟩
  have HBad : Hid (numF s most st = { st with code := 1, fat := st.t.at_ } → ∀ W, Below w.heap.size w W → ∀ e W2, Threw W rb 1 st.t.at_ e W2 → RP w rb mv s (numF s most st) (fun e _ => e = .returned (.int .i64 (decV st.t.t : Nat))) e W2) := fun e W hb en W2 h4 => by
    rw [e]; exact .inr ⟨by simp, h4.from (Touched.of_below hb)⟩
  by_cases hk : k = 2
  · obtain ⟨hd, hn0, hcase⟩ := hp.num hk
    rcases hcase with ⟨hk2, hz2, hcan⟩ | ⟨hk4, hodd⟩
    · obtain ⟨_, rfl, _⟩ := hp.good (by omega)
      obtain ⟨hv, hdd, hat⟩ := num_canon hd hn0 hz2 hcan
      have KA := hide (Any.strconv_Atoi_ok atLays st.t.t (by omega) (decV st.t.t : Nat) hat w)
      have HDD : Hid ((⟨(Lib.decDigits (decV st.t.t)).toArray⟩ : ByteArray) = st.t.t) := hide (by rw [hdd])
      have HG : Hid (decV st.t.t ≤ most → numF s most st = st.step s ∧ (st.step s).code = 0) := fun hle => by
        refine ⟨if_pos ⟨by unfold FS.kin; rw [hc, hk2]; rfl, hle⟩, ?_⟩
        unfold FS.step; rw [if_pos hc]; exact hc
      have HN : Hid (¬ decV st.t.t ≤ most → numF s most st = { st with code := 1, fat := st.t.at_ }) := fun hle => by
        unfold numF FS.fail
        rw [if_neg (fun h => hle h.2), if_pos hc]
      have hbel : ∀ w', (w' = w ∨ ∃ t, w' = Lib.bytesWorld w (atLays_ren.t 5) t) → Below w.heap.size w w' := fun w' h => by
        rcases h with rfl | ⟨t, rfl⟩
        · exact Below.refl _ _
        · exact Lib.bytesWorld_below _ _ _
      have HBe := hide hbel
      have hq3 := h.c3
      clear h hp ho ht hd hn0 hz2 hcan hat hdd hbel
      generalize decV st.t.t = v at *
      by_cases hle : v ≤ most
      · obtain ⟨e1, e2⟩ := HG.out hle
        have H12 := hide e1
        have HC2 := hide e2
        rw [e1]
        have g1 : decide ((v : Int) > (most : Int)) = false := by simp; omega
        have HK3 : Hid (st.t.kd ≤ 3) := hide (by omega)
        clear e1 e2 HG HN
        go_enter Tryz.func97, Tryz.ntmps97
        go_wp2_with (go_at_call 105; refine KA.out.mono ?_)
        rintro e w1 ⟨rfl, hw1⟩
        have hb1 := HBe.out w1 hw1
        have HB := hide hb1
        have d3 := cell_later hb1 c3
        have q3 : ∀ x : Later w1.heap.size w1, x.W.cell? ⟨rb, 3, none⟩ = some (.string st.t.t) := fun x => cell_later x.h d3
        have HC : Hid (∀ W, Below w1.heap.size w1 W → Calls Tryz.prog 106 #[.int .i64 (v : Nat)] W fun e w' => e = .returned (.string st.t.t) ∧ Below W.heap.size W w') := fun W hW => by
          have := itoa_calls v (by omega) W ((HBN.out w1 hb1).2.later hW).pw
          rw [HDD.out] at this
          exact this
        clear hw1 hb1
        go_wp2_with fail
        refine wp_region_later (by kernel_rfl) (by kernel_rfl) (Below.refl w1.heap.size w1) ?_
        have hst := Later.some w1.heap.size w1
        iterate 9 quiet_step (fail)
        quiet_step (exact Later.calls HC.out (Nat.le_refl _) _)
        iterate 7 quiet_step (fail)
        refine wpQuiet_nil ?_
        intro _ hw'
        obtain ⟨x, rfl⟩ := hw'
        have hbx : Below w.heap.size w x.W := HB.out.trans (x.h.mono HB.out.size)
        have KD := hide (adv_calls rb mv s st x.W (HBN.out _ hbx).1 hs HO.out (HBN.out _ hbx).2.sg (by omega) HK3.out)
        have HBx := hide hbx
        clear hbx q3
        go_wp2_with (go_at_call 35; refine KD.out.mono ?_)
        rintro e W2 ⟨rfl, h2, h3⟩
        have H2 := hide h2
        have H3 := hide h3
        clear h2 h3
        go_wp2_with fail
        go_ret
        exact .inl ⟨HC2.out, rfl, H2.out, (Touched.of_below HBx.out).trans H3.out⟩
      · have HF := hide (HBad.out (HN.out hle))
        have g1 : decide ((v : Int) > (most : Int)) = true := by simp; omega
        clear HG HN HBad
        go_enter Tryz.func97, Tryz.ntmps97
        go_wp2_with (go_at_call 105; refine KA.out.mono ?_)
        rintro e w1 ⟨rfl, hw1⟩
        have hb1 := HBe.out w1 hw1
        have HB := hide hb1
        clear hw1 hb1
        go_wp2_with fail
        go_quiet (fail)
        have hbx : Below w.heap.size w (w1.drewN nq) := below_drewN HB.out nq
        have KR := hide (refuse_calls rb mv s st _ (HBN.out _ hbx).1)
        have HBx := hide hbx
        clear hbx
        go_wp2_with (go_at_call 59; refine KR.out.mono ?_)
        intro e W2 h4
        have HE := hide (HF.out _ HBx.out e W2 h4)
        obtain ⟨fb, rfl, -⟩ := h4
        go_wp2_with fail
        exact ⟨rfl, HE.out⟩
    · have HN : Hid (numF s most st = { st with code := 1, fat := st.t.at_ }) := hide (by
        unfold numF FS.fail
        rw [if_neg (fun h => by have := (FS.kin_kd h.1).2; omega), if_pos hc])
      have HF := hide (HBad.out HN.out)
      have HOd := hide (fun k hk => num_odd hodd (k := k) hk)
      have hq3 := h.c3
      have hne : t.data.toList ≠ [] := fun e => by
        have h5 : t.data.toList.length = t.size := by simp
        rw [e, List.length_nil] at h5
        omega
      rcases digits_int _ hd hne with ⟨v, hv⟩ | hv
      · have KA := hide (Any.strconv_Atoi_ok atLays t (by omega) (v : Nat) hv w)
        have hbel : ∀ w', (w' = w ∨ ∃ t, w' = Lib.bytesWorld w (atLays_ren.t 5) t) → Below w.heap.size w w' := fun w' h => by
          rcases h with rfl | ⟨t, rfl⟩
          · exact Below.refl _ _
          · exact Lib.bytesWorld_below _ _ _
        have HBe := hide hbel
        clear h hp ho ht hd hn0 hv hbel hodd hne HBad
        by_cases hle : v ≤ most
        · have g1 : decide ((v : Int) > (most : Int)) = false := by simp; omega
          have hno : (⟨(Lib.decDigits v).toArray⟩ : ByteArray) ≠ t := HOd.out v (by omega)
          have g2 := sameStr_neg hno
          clear hno HOd
          go_enter Tryz.func97, Tryz.ntmps97
          go_wp2_with (go_at_call 105; refine KA.out.mono ?_)
          rintro e w1 ⟨rfl, hw1⟩
          have hb1 := HBe.out w1 hw1
          have HB := hide hb1
          have d3 := cell_later hb1 c3
          have q3 : ∀ x : Later w1.heap.size w1, x.W.cell? ⟨rb, 3, none⟩ = some (.string t) := fun x => cell_later x.h d3
          have HC : Hid (∀ W, Below w1.heap.size w1 W → Calls Tryz.prog 106 #[.int .i64 (v : Nat)] W fun e w' => e = .returned (.string ⟨(Lib.decDigits v).toArray⟩) ∧ Below W.heap.size W w') := fun W hW => itoa_calls v (by omega) W ((HBN.out w1 hb1).2.later hW).pw
          clear hw1 hb1
          generalize (⟨(Lib.decDigits v).toArray⟩ : ByteArray) = dt at *
          go_wp2_with fail
          refine wp_region_later (by kernel_rfl) (by kernel_rfl) (Below.refl w1.heap.size w1) ?_
          have hst := Later.some w1.heap.size w1
          iterate 9 quiet_step (fail)
          quiet_step (exact Later.calls HC.out (Nat.le_refl _) _)
          iterate 7 quiet_step (fail)
          refine wpQuiet_nil ?_
          intro _ hw'
          obtain ⟨x, rfl⟩ := hw'
          have hbx : Below w.heap.size w x.W := HB.out.trans (x.h.mono HB.out.size)
          have KR := hide (refuse_calls rb mv s st _ (HBN.out _ hbx).1)
          have HBx := hide hbx
          clear hbx q3
          go_wp2_with (go_at_call 59; refine KR.out.mono ?_)
          intro e W2 h4
          have HE := hide (HF.out _ HBx.out e W2 h4)
          obtain ⟨fb, rfl, -⟩ := h4
          go_wp2_with fail
          exact ⟨rfl, HE.out⟩
        · have g1 : decide ((v : Int) > (most : Int)) = true := by simp; omega
          go_enter Tryz.func97, Tryz.ntmps97
          go_wp2_with (go_at_call 105; refine KA.out.mono ?_)
          rintro e w1 ⟨rfl, hw1⟩
          have hb1 := HBe.out w1 hw1
          have HB := hide hb1
          clear hw1 hb1
          go_wp2_with fail
          go_quiet (fail)
          have hbx : Below w.heap.size w (w1.drewN nq) := below_drewN HB.out nq
          have KR := hide (refuse_calls rb mv s st _ (HBN.out _ hbx).1)
          have HBx := hide hbx
          clear hbx
          go_wp2_with (go_at_call 59; refine KR.out.mono ?_)
          intro e W2 h4
          have HE := hide (HF.out _ HBx.out e W2 h4)
          obtain ⟨fb, rfl, -⟩ := h4
          go_wp2_with fail
          exact ⟨rfl, HE.out⟩
      · obtain ⟨er, hr, her⟩ := ht.er
        have KA := hide (Any.strconv_Atoi_range atLays t (by omega) hv er w hr her)
        clear h hp hts ho ht hd hn0 hv hodd hne HBad hr her
        go_enter Tryz.func97, Tryz.ntmps97
        go_wp2_with (go_at_call 105; refine KA.out.mono ?_)
        rintro e w1 ⟨N, rfl, -, -, hb1⟩
        have HB := hide hb1
        clear hb1
        go_wp2_with fail
        go_quiet (fail)
        have hbx : Below w.heap.size w (w1.drewN nq) := below_drewN HB.out nq
        have KR := hide (refuse_calls rb mv s st _ (HBN.out _ hbx).1)
        have HBx := hide hbx
        clear hbx
        go_wp2_with (go_at_call 59; refine KR.out.mono ?_)
        intro e W2 h4
        have HE := hide (HF.out _ HBx.out e W2 h4)
        obtain ⟨fb, rfl, -⟩ := h4
        go_wp2_with fail
        exact ⟨rfl, HE.out⟩
  · obtain ⟨ev, he, hev⟩ := ht.es
    have KA := hide (Any.strconv_Atoi_syntax atLays t (by omega) (notNum_atoi (hp.not hk)) ev w he hev)
    have HN : Hid (numF s most st = { st with code := 1, fat := st.t.at_ }) := by
      unfold Hid numF FS.fail
      rw [if_neg, if_pos hc]
      rintro ⟨h1, _⟩
      have := (FS.kin_kd h1).2
      exact hk ((hp.good (by omega)).1.trans this)
    have HF := hide (HBad.out HN.out)
    clear h hp hk hts ho ht HBad
    go_enter Tryz.func97, Tryz.ntmps97
    go_wp2_with (go_at_call 105; refine KA.out.mono ?_)
    rintro e w1 ⟨N, rfl, -, -, hb1⟩
    have HB := hide hb1
    clear hb1
    go_wp2_with fail
    go_quiet (fail)
    have hbx : Below w.heap.size w (w1.drewN nq) := below_drewN HB.out nq
    have KR := hide (refuse_calls rb mv s st _ (HBN.out _ hbx).1)
    have HBx := hide hbx
    clear hbx
    go_wp2_with (go_at_call 59; refine KR.out.mono ?_)
    intro e W2 h4
    have HE := hide (HF.out _ HBx.out e W2 h4)
    obtain ⟨fb, rfl, -⟩ := h4
    go_wp2_with fail
    exact ⟨rfl, HE.out⟩

end Go.Proofs.YtekfledccpeblaaGreatDoor
