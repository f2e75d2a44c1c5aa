/- The reader with all that stands beside it; its calls told so. -/
import Derived.Test.YtockffblncdikaaGreatDoorItl
import Derived.Maps.OwnOps
namespace Go.Proofs.YtockffblncdikaaGreatDoor
open Go.RowKit Go.Shelf
set_option maxRecDepth 100000
set_option maxHeartbeats 16000000
def ErrVar (w : World) (b : Nat) : Prop := ∃ ev, w.cell? ⟨b, 0, none⟩ = some ev /\ (ev = .nilIface \/ ∃ te pe, ev = .iface te pe)
theorem ErrVar.of_block {w w' : World} {b : Nat} (h : ErrVar w b) (hb : w'.heap[b]? = w.heap[b]?) : ErrVar w' b := by
 obtain ⟨ev, h1, h2⟩ := h; exact ⟨ev, (World.cell?_of_block hb).trans h1, h2⟩
def Pow10 (w : World) : Prop := Lib.TabIs Tryz.prog w "internal/strconv.uint64pow10" .u64 Lib.pow10Tab
theorem grown_below (w : World) (k : Nat) (os : Array Obj) : Below w.heap.size w (Go.Sort.grow (w.drewN k) os) := by
 refine ⟨rfl, rfl, rfl, ?_, fun j hj => ?_⟩
 . show w.heap.size <= (w.heap ++ os).size
   simp
 . show (w.heap ++ os)[j]? = w.heap[j]?
   exact Array.getElem?_append_left hj
theorem globalPow : Tryz.prog.globalNamed "internal/strconv.uint64pow10" = some 6 := by kernel_rfl
theorem Pow10.of_block {w w' : World} (h : Pow10 w) (hb : w'.heap[6]? = w.heap[6]?) : Pow10 w' := by
 unfold Pow10 Lib.TabIs World.var? at *
 simp only [globalPow, Option.bind_some] at h ⊢
 rw [hb]; exact h
abbrev cwv : List Value := [.string ⟨#[]⟩, .string ⟨#[97, 120, 105, 111, 109]⟩, .string ⟨#[100, 101, 102]⟩, .string ⟨#[116, 104, 101, 111, 114, 101, 109]⟩, .string ⟨#[105, 110, 100, 117, 99, 116, 105, 118, 101]⟩]
abbrev tsv : List Value := [.bool false, .bool false, .bool false, .bool false, .bool false, .bool true, .bool false, .bool false, .bool false, .bool false, .bool false, .bool true, .bool false, .bool false, .bool false, .bool true, .bool false, .bool false, .bool false, .bool false, .bool false, .bool false, .bool false, .bool false, .bool true, .bool false, .bool false, .bool false, .bool true, .bool false, .bool false, .bool false, .bool false, .bool false, .bool false, .bool true, .bool true, .bool false, .bool false, .bool true, .bool false, .bool false, .bool true, .bool false, .bool false, .bool false, .bool false, .bool true, .bool false, .bool false, .bool false, .bool false, .bool false, .bool false, .bool false, .bool false]
structure Tb (w : World) : Prop where
 sg : SgT w
 cw : w.rangeAt 0 0 cwv
 ts : w.rangeAt 3 0 tsv
 es : ErrVar w 4
 er : ErrVar w 5
 pw : Pow10 w
 lt : 8 < w.heap.size
theorem range_of_block {w w' : World} {b : Nat} {l : List Value} (h : w.rangeAt b 0 l) (hb : w'.heap[b]? = w.heap[b]?) : w'.rangeAt b 0 l := fun j v e => (World.cell?_of_block (w := w) hb).trans (h j v e)
theorem Tb.of_blocks {w w' : World} (h : Tb w) (hb : ∀ k, k <= 8 -> w'.heap[k]? = w.heap[k]?) (hl : w.heap.size <= w'.heap.size) : Tb w' :=
 ⟨h.sg.of_block (hb 1 (by omega)), range_of_block h.cw (hb 0 (by omega)), range_of_block h.ts (hb 3 (by omega)), h.es.of_block (hb 4 (by omega)), h.er.of_block (hb 5 (by omega)), h.pw.of_block (hb 6 (by omega)), Nat.lt_of_lt_of_le h.lt hl⟩
theorem Tb.touched {w w' : World} {rb : Nat} (h : Tb w) (ht : Touched w rb w') (hr : 8 < rb) : Tb w' := h.of_blocks (fun k hk => ht.at (by have := h.lt; omega) (by omega)) ht.size
theorem Tb.later {w w' : World} (h : Tb w) (hb : Below w.heap.size w w') : Tb w' := h.of_blocks (fun k hk => hb.block k (by have := h.lt; omega)) hb.size
theorem itoa_calls (n : Nat) (hn : n <= 900000) (w : World) (ht : Pow10 w) :
 Calls Tryz.prog 101 #[.int .i64 (n : Nat)] w fun e w' => e = .returned (.string ⟨(Lib.decDigits n).toArray⟩) /\ Below w.heap.size w w' :=
 (Any.strconv_Itoa itLays (n : Int) (by omega) (by omega) w ht).mono fun e w' ⟨he, k, os, hw⟩ => ⟨by rw [he, Lib.itoa_nonneg], by rw [hw]; exact grown_below _ _ _⟩
theorem digits_uint : ∀ (l : List UInt8) (acc : Nat), (∀ c ∈ l, 48 <= c.toNat /\ c.toNat <= 57) -> (∃ u, Lib.parseUint10 acc l = .ok u) \/ Lib.parseUint10 acc l = .range
 | [], acc, _ => .inl ⟨acc, rfl⟩
 | c :: r, acc, h => by
   simp only [Lib.parseUint10]
   rw [if_pos (h c (by simp))]
   split
   . exact .inr rfl
   . split
     . exact .inr rfl
     . exact digits_uint r _ fun x hx => h x (by simp [hx])
theorem digits_int (l : List UInt8) (h : ∀ c ∈ l, 48 <= c.toNat /\ c.toNat <= 57) (hne : l ≠ []) : (∃ v : Nat, Lib.atoiAll l = .ok (v : Int)) \/ Lib.atoiAll l = .range := by
 cases l with
 | nil => exact absurd rfl hne
 | cons c r =>
   have hc := h c (by simp); rw [Lib.atoiAll_plain c r (by omega) (by omega)]; unfold Lib.parseMag; rw [if_neg (by simp)]
   rcases digits_uint (c :: r) 0 h with ⟨u, e⟩ | e
   . rw [e]
     unfold Lib.signless
     dsimp only
     split
     . exact .inr rfl
     . exact .inl ⟨_, rfl⟩
   . rw [e]; exact .inr rfl
theorem parse_bad (c : UInt8) (r : List UInt8) (acc : Nat) (h : ¬ (48 <= c.toNat /\ c.toNat <= 57)) : Lib.parseUint10 acc (c :: r) = .syntax := by simp only [Lib.parseUint10]; rw [if_neg h]
theorem notNum_atoi {t : ByteArray} (h : NotNum t) : Lib.atoiAll t.data.toList = .syntax := by
 cases hl : t.data.toList with
 | nil => rfl
 | cons c r =>
   have hz : t.size = r.length + 1 := by
    have := congrArg List.length hl
    simpa using this
   have h0 : at_ t 0 = c.toNat := by rw [at_data t 0 (by omega)]; simp [hl]
   rcases h with h | ⟨h1, h2⟩
   . omega
   rw [h0] at h1 h2; have hd : ¬ (48 <= c.toNat /\ c.toNat <= 57) := by simpa [digitB] using h1
   by_cases hs : c.toNat = 43 \/ c.toNat = 45
   . have hr : Lib.parseMag r = .syntax := by
      cases r with
      | nil => rfl
      | cons d q =>
        have h01 : at_ t 1 = d.toNat := by rw [at_data t 1 (by simp at hz; omega)]; simp [hl]
        have : digitB d.toNat = false := by
         rcases h2 with h2 | h2 | h2
         . simp at hz; omega
         . rw [<- h01]; exact h2
         . omega
        unfold Lib.parseMag; rw [if_neg (by simp)]; exact parse_bad d q 0 (by simpa [digitB] using this)
     unfold Lib.atoiAll
     simp only
     rw [if_pos hs, hr]
   . rw [Lib.atoiAll_plain c r (by omega) (by omega)]
     unfold Lib.parseMag; rw [if_neg (by simp), parse_bad c r 0 hd]
     rfl
theorem small_nums : ∀ k, k < 100 -> (decide (Lib.atoiAll (Lib.decDigits k) = .ok (k : Int)) && decide ((Lib.decDigits k).length <= 2) && (decide ((Lib.decDigits k).length ≠ 2) || decide ((Lib.decDigits k).head? ≠ some 48)) && decide (decF 0 (Lib.decDigits k) = k)) = true := by decide +kernel
theorem two_digs : ∀ a b : Fin 10, (decide (Lib.decDigits (a.val * 10 + b.val) = [UInt8.ofNat (48 + a.val), UInt8.ofNat (48 + b.val)]) || decide (a.val = 0)) = true := by decide +kernel
theorem one_dig : ∀ a : Fin 10, decide (Lib.decDigits a.val = [UInt8.ofNat (48 + a.val)]) = true := by decide +kernel
theorem byte_of {c : UInt8} (h : 48 <= c.toNat /\ c.toNat <= 57) : c = UInt8.ofNat (48 + (c.toNat - 48)) := by
 rw [show 48 + (c.toNat - 48) = c.toNat by omega]; simp
theorem decV_one {t : ByteArray} {c : UInt8} (hl : t.data.toList = [c]) : decV t = c.toNat - 48 := by
 have e : decV t = decF 0 [c] := congrArg (decF 0) hl; rw [e]; show 0 * 10 + (c.toNat - 48) = c.toNat - 48; rw [Nat.zero_mul, Nat.zero_add]
theorem decV_two {t : ByteArray} {c d : UInt8} (hl : t.data.toList = [c, d]) : decV t = (c.toNat - 48) * 10 + (d.toNat - 48) := by
 have e : decV t = decF 0 [c, d] := congrArg (decF 0) hl; rw [e]; show (0 * 10 + (c.toNat - 48)) * 10 + (d.toNat - 48) = _; rw [Nat.zero_mul, Nat.zero_add]
theorem num_canon {t : ByteArray} (hd : Digs t) (h0 : 0 < t.size) (h2 : t.size <= 2) (hz : ¬ (t.size = 2 /\ at_ t 0 = 48)) : decV t < 100 /\ Lib.decDigits (decV t) = t.data.toList /\ Lib.atoiAll t.data.toList = .ok (decV t : Int) := by
 have hlen : t.data.toList.length = t.size := by simp
 have key : decV t < 100 /\ Lib.decDigits (decV t) = t.data.toList := by
  match hl : t.data.toList with
  | [] => rw [hl] at hlen; simp at hlen; omega
  | [c] =>
    have hc := hd c (by rw [hl]; simp); have hv : decV t = c.toNat - 48 := decV_one hl; have := one_dig ⟨c.toNat - 48, by omega⟩
    simp only [decide_eq_true_eq] at this
    rw [hv, this, <- byte_of hc]; exact ⟨by omega, rfl⟩
  | [c, d] =>
    have hc := hd c (by rw [hl]; simp); have hd' := hd d (by rw [hl]; simp); have hv : decV t = (c.toNat - 48) * 10 + (d.toNat - 48) := decV_two hl
    have h48 : c.toNat ≠ 48 := fun e => hz ⟨by rw [hl] at hlen; simp at hlen; omega, by rw [at_data t 0 h0]; simp [hl, e]⟩
    have := two_digs ⟨c.toNat - 48, by omega⟩ ⟨d.toNat - 48, by omega⟩
    simp only [Bool.or_eq_true, decide_eq_true_eq] at this
    rcases this with this | this
    . rw [hv, this, <- byte_of hc, <- byte_of hd']
      exact ⟨by omega, rfl⟩
    . omega
  | c :: d :: e :: r => rw [hl] at hlen; simp at hlen; omega
 refine ⟨key.1, key.2, ?_⟩; have := small_nums _ key.1
 simp only [Bool.and_eq_true, decide_eq_true_eq] at this
 rw [<- key.2]; exact this.1.1.1
theorem num_odd {t : ByteArray} (h : 2 < t.size \/ (t.size = 2 /\ at_ t 0 = 48)) {k : Nat} (hk : k < 100) : (⟨(Lib.decDigits k).toArray⟩ : ByteArray) ≠ t := by
 rintro rfl; have := small_nums k hk
 simp only [Bool.and_eq_true, decide_eq_true_eq, Bool.or_eq_true] at this
 obtain ⟨⟨⟨_, h2⟩, h3⟩, _⟩ := this; have hz : (⟨(Lib.decDigits k).toArray⟩ : ByteArray).size = (Lib.decDigits k).length := by show (Lib.decDigits k).toArray.size = _; simp
 rw [hz] at h
 rcases h with h | ⟨h, h4⟩
 . omega
 . rcases h3 with h3 | h3
   . exact h3 h
   . apply h3
     cases hl : Lib.decDigits k with
     | nil => rw [hl] at h; simp at h
     | cons c r =>
       have : at_ (⟨(Lib.decDigits k).toArray⟩ : ByteArray) 0 = c.toNat := by
        rw [at_data _ 0 (by rw [hz, hl]; simp)]
        simp [hl]
       rw [this] at h4
       simp
       exact UInt8.toNat_inj.1 h4
structure Later (n : Nat) (W0 : World) where
 W : World
 h : Below n W0 W
theorem Later.some (n : Nat) (W0 : World) : Nonempty (Later n W0) := ⟨⟨W0, Below.refl _ _⟩⟩
theorem wp_region_later {P : Program} {id : Nat} {Q : Exit -> Act -> World -> Prop} {a : Act} {w : World} {l : List Oper} (hm : P.follows .mixedOrders = true) (hB : Region.lexB .any l.toArray = true) {n : Nat} {W0 : World} (hw : Below n W0 w)
 (h : wpQuiet P l.toArray (fun w' => ∃ x : Later n W0, w' = x.W) (fun a' => ∀ w', (∃ x : Later n W0, w' = x.W) -> Q .normal a' w') l a) : (Code.region id l.toArray true).wp P Q a w :=
 wp_region_quiet (C := fun w' => ∃ x : Later n W0, w' = x.W) hm hB ⟨⟨w.drew, hw.drew⟩, rfl⟩ (by simpa using h)
theorem Later.calls {n : Nat} {W0 : World} {f : FuncId} {args : Array Value} {r : Value} (h : ∀ W, Below n W0 W -> Calls Tryz.prog f args W fun e w' => e = .returned r /\ Below W.heap.size W w') (hn : n <= W0.heap.size) (x : Later n W0) :
 Calls Tryz.prog f args x.W fun e w' => e = .returned r /\ ∃ y : Later n W0, w' = y.W :=
 (h x.W x.h).mono fun _ w' ⟨he, hb⟩ => ⟨he, ⟨w', x.h.trans (hb.mono (Nat.le_trans hn x.h.size))⟩, rfl⟩
def numF (s : ByteArray) (most : Nat) (st : FS) : FS := if st.kin 2 = true /\ decV st.t.t <= most then st.step s else st.fail
theorem FS.Ok.few {s : ByteArray} {st : FS} (h : st.Ok s) : st.t.t.size <= 40 := by obtain ⟨p, h⟩ := h.tok; exact h.few
theorem number_calls (rb : Nat) (mv : Value) (s : ByteArray) (st : FS) (w : World) (h : RdS w rb mv s st) (hs : s.size <= 200000) (ho : st.Ok s) (ht : Tb w) (hb : 8 < rb) (most : Nat) (hm : most <= 99) :
 Calls Tryz.prog 89 #[.pointer (some ⟨rb, 0, none⟩), .int .i64 (most : Nat)] w fun e w' => RP w rb mv s (numF s most st) (fun e _ => e = .returned (.int .i64 (decV st.t.t : Nat))) e w' := by
 have H := hide h; have hc := h.code; obtain ⟨h0, c, k, t, r, h, hp, hts⟩ := h; have c3 := h.c3; have hl := h.lt; have HT := hide ht; have HO := hide ho
 have HBN : Hid (∀ (W : World), Below w.heap.size w W -> RdS W rb mv s st /\ Tb W) := fun W hb => ⟨H.out.later hb, HT.out.later hb⟩
 have HBad : Hid (numF s most st = { st with code := 1, fat := st.t.at_ } -> ∀ W, Below w.heap.size w W -> ∀ e W2, Threw W rb 1 st.t.at_ e W2 -> RP w rb mv s (numF s most st) (fun e _ => e = .returned (.int .i64 (decV st.t.t : Nat))) e W2) := fun e W hb en W2 h4 => by
  rw [e]; exact .inr ⟨by simp, h4.from (Touched.of_below hb)⟩
 by_cases hk : k = 2
 . obtain ⟨hd, hn0, hcase⟩ := hp.num hk
   rcases hcase with ⟨hk2, hz2, hcan⟩ | ⟨hk4, hodd⟩
   . obtain ⟨_, rfl, _⟩ := hp.good (by omega)
     obtain ⟨hv, hdd, hat⟩ := num_canon hd hn0 hz2 hcan; have KA := hide (Any.strconv_Atoi_ok atLays st.t.t (by omega) (decV st.t.t : Nat) hat w)
     have HDD : Hid ((⟨(Lib.decDigits (decV st.t.t)).toArray⟩ : ByteArray) = st.t.t) := hide (by rw [hdd])
     have HG : Hid (decV st.t.t <= most -> numF s most st = st.step s /\ (st.step s).code = 0) := fun hle => by
      refine ⟨if_pos ⟨by unfold FS.kin; rw [hc, hk2]; rfl, hle⟩, ?_⟩; unfold FS.step; rw [if_pos hc]; exact hc
     have HN : Hid (¬ decV st.t.t <= most -> numF s most st = { st with code := 1, fat := st.t.at_ }) := fun hle => by
      unfold numF FS.fail; rw [if_neg (fun h => hle h.2), if_pos hc]
     have hbel : ∀ w', (w' = w \/ ∃ t, w' = Lib.bytesWorld w (atLays_ren.t 5) t) -> Below w.heap.size w w' := fun w' h => by
      rcases h with rfl | ⟨t, rfl⟩
      . exact Below.refl _ _
      . exact Lib.bytesWorld_below _ _ _
     have HBe := hide hbel; have hq3 := h.c3; clear h hp ho ht hd hn0 hz2 hcan hat hdd hbel; generalize decV st.t.t = v at *
     by_cases hle : v <= most
     . obtain ⟨e1, e2⟩ := HG.out hle
       have H12 := hide e1; have HC2 := hide e2; rw [e1]; have g1 : decide ((v : Int) > (most : Int)) = false := by simp; omega
       have HK3 : Hid (st.t.kd <= 3) := hide (by omega); clear e1 e2 HG HN
       go_enter Tryz.func89, Tryz.ntmps89
       go_wp2_with (go_at_call 110; refine KA.out.mono ?_)
       rintro e w1 ⟨rfl, hw1⟩; have hb1 := HBe.out w1 hw1; have HB := hide hb1; have d3 := cell_later hb1 c3
       have q3 : ∀ x : Later w1.heap.size w1, x.W.cell? ⟨rb, 3, none⟩ = some (.string st.t.t) := fun x => cell_later x.h d3
       have HC : Hid (∀ W, Below w1.heap.size w1 W -> Calls Tryz.prog 101 #[.int .i64 (v : Nat)] W fun e w' => e = .returned (.string st.t.t) /\ Below W.heap.size W w') := fun W hW => by
        have := itoa_calls v (by omega) W ((HBN.out w1 hb1).2.later hW).pw; rw [HDD.out] at this; exact this
       clear hw1 hb1
       go_wp2_with fail
       refine wp_region_later (by kernel_rfl) (by kernel_rfl) (Below.refl w1.heap.size w1) ?_; have hst := Later.some w1.heap.size w1
       iterate 9 quiet_step (fail)
       quiet_step (exact Later.calls HC.out (Nat.le_refl _) _)
       iterate 7 quiet_step (fail)
       refine wpQuiet_nil ?_; intro _ hw'; obtain ⟨x, rfl⟩ := hw'; have hbx : Below w.heap.size w x.W := HB.out.trans (x.h.mono HB.out.size)
       have KD := hide (adv_calls rb mv s st x.W (HBN.out _ hbx).1 hs HO.out (HBN.out _ hbx).2.sg (by omega) HK3.out); have HBx := hide hbx; clear hbx q3
       go_wp2_with (go_at_call 24; refine KD.out.mono ?_)
       rintro e W2 ⟨rfl, h2, h3⟩; have H2 := hide h2; have H3 := hide h3; clear h2 h3
       go_wp2_with fail
       go_ret; exact .inl ⟨HC2.out, rfl, H2.out, (Touched.of_below HBx.out).trans H3.out⟩
     . have HF := hide (HBad.out (HN.out hle))
       have g1 : decide ((v : Int) > (most : Int)) = true := by simp; omega
       clear HG HN HBad
       go_enter Tryz.func89, Tryz.ntmps89
       go_wp2_with (go_at_call 110; refine KA.out.mono ?_)
       rintro e w1 ⟨rfl, hw1⟩; have hb1 := HBe.out w1 hw1; have HB := hide hb1; clear hw1 hb1
       go_wp2_with fail
       go_quiet (fail)
       have hbx : Below w.heap.size w (w1.drewN nq) := below_drewN HB.out nq; have KR := hide (refuse_calls rb mv s st _ (HBN.out _ hbx).1); have HBx := hide hbx; clear hbx
       go_wp2_with (go_at_call 39; refine KR.out.mono ?_)
       intro e W2 h4; have HE := hide (HF.out _ HBx.out e W2 h4); obtain ⟨fb, rfl, -⟩ := h4
       go_wp2_with fail
       exact ⟨rfl, HE.out⟩
   . have HN : Hid (numF s most st = { st with code := 1, fat := st.t.at_ }) := hide (by
      unfold numF FS.fail; rw [if_neg (fun h => by have := (FS.kin_kd h.1).2; omega), if_pos hc])
     have HF := hide (HBad.out HN.out); have HOd := hide (fun k hk => num_odd hodd (k := k) hk); have hq3 := h.c3
     have hne : t.data.toList ≠ [] := fun e => by
      have h5 : t.data.toList.length = t.size := by simp
      rw [e, List.length_nil] at h5; omega
     rcases digits_int _ hd hne with ⟨v, hv⟩ | hv
     . have KA := hide (Any.strconv_Atoi_ok atLays t (by omega) (v : Nat) hv w)
       have hbel : ∀ w', (w' = w \/ ∃ t, w' = Lib.bytesWorld w (atLays_ren.t 5) t) -> Below w.heap.size w w' := fun w' h => by
        rcases h with rfl | ⟨t, rfl⟩
        . exact Below.refl _ _
        . exact Lib.bytesWorld_below _ _ _
       have HBe := hide hbel; clear h hp ho ht hd hn0 hv hbel hodd hne HBad
       by_cases hle : v <= most
       . have g1 : decide ((v : Int) > (most : Int)) = false := by simp; omega
         have hno : (⟨(Lib.decDigits v).toArray⟩ : ByteArray) ≠ t := HOd.out v (by omega); have g2 := sameStr_neg hno; clear hno HOd
         go_enter Tryz.func89, Tryz.ntmps89
         go_wp2_with (go_at_call 110; refine KA.out.mono ?_)
         rintro e w1 ⟨rfl, hw1⟩; have hb1 := HBe.out w1 hw1; have HB := hide hb1; have d3 := cell_later hb1 c3
         have q3 : ∀ x : Later w1.heap.size w1, x.W.cell? ⟨rb, 3, none⟩ = some (.string t) := fun x => cell_later x.h d3
         have HC : Hid (∀ W, Below w1.heap.size w1 W -> Calls Tryz.prog 101 #[.int .i64 (v : Nat)] W fun e w' => e = .returned (.string ⟨(Lib.decDigits v).toArray⟩) /\ Below W.heap.size W w') := fun W hW => itoa_calls v (by omega) W ((HBN.out w1 hb1).2.later hW).pw
         clear hw1 hb1; generalize (⟨(Lib.decDigits v).toArray⟩ : ByteArray) = dt at *
         go_wp2_with fail
         refine wp_region_later (by kernel_rfl) (by kernel_rfl) (Below.refl w1.heap.size w1) ?_; have hst := Later.some w1.heap.size w1
         iterate 9 quiet_step (fail)
         quiet_step (exact Later.calls HC.out (Nat.le_refl _) _)
         iterate 7 quiet_step (fail)
         refine wpQuiet_nil ?_; intro _ hw'; obtain ⟨x, rfl⟩ := hw'; have hbx : Below w.heap.size w x.W := HB.out.trans (x.h.mono HB.out.size); have KR := hide (refuse_calls rb mv s st _ (HBN.out _ hbx).1)
         have HBx := hide hbx; clear hbx q3
         go_wp2_with (go_at_call 39; refine KR.out.mono ?_)
         intro e W2 h4; have HE := hide (HF.out _ HBx.out e W2 h4); obtain ⟨fb, rfl, -⟩ := h4
         go_wp2_with fail
         exact ⟨rfl, HE.out⟩
       . have g1 : decide ((v : Int) > (most : Int)) = true := by simp; omega
         go_enter Tryz.func89, Tryz.ntmps89
         go_wp2_with (go_at_call 110; refine KA.out.mono ?_)
         rintro e w1 ⟨rfl, hw1⟩; have hb1 := HBe.out w1 hw1; have HB := hide hb1; clear hw1 hb1
         go_wp2_with fail
         go_quiet (fail)
         have hbx : Below w.heap.size w (w1.drewN nq) := below_drewN HB.out nq; have KR := hide (refuse_calls rb mv s st _ (HBN.out _ hbx).1); have HBx := hide hbx; clear hbx
         go_wp2_with (go_at_call 39; refine KR.out.mono ?_)
         intro e W2 h4; have HE := hide (HF.out _ HBx.out e W2 h4); obtain ⟨fb, rfl, -⟩ := h4
         go_wp2_with fail
         exact ⟨rfl, HE.out⟩
     . obtain ⟨er, hr, her⟩ := ht.er
       have KA := hide (Any.strconv_Atoi_range atLays t (by omega) hv er w hr her); clear h hp hts ho ht hd hn0 hv hodd hne HBad hr her
       go_enter Tryz.func89, Tryz.ntmps89
       go_wp2_with (go_at_call 110; refine KA.out.mono ?_)
       rintro e w1 ⟨N, rfl, -, -, hb1⟩; have HB := hide hb1; clear hb1
       go_wp2_with fail
       go_quiet (fail)
       have hbx : Below w.heap.size w (w1.drewN nq) := below_drewN HB.out nq; have KR := hide (refuse_calls rb mv s st _ (HBN.out _ hbx).1); have HBx := hide hbx; clear hbx
       go_wp2_with (go_at_call 39; refine KR.out.mono ?_)
       intro e W2 h4; have HE := hide (HF.out _ HBx.out e W2 h4); obtain ⟨fb, rfl, -⟩ := h4
       go_wp2_with fail
       exact ⟨rfl, HE.out⟩
 . obtain ⟨ev, he, hev⟩ := ht.es
   have KA := hide (Any.strconv_Atoi_syntax atLays t (by omega) (notNum_atoi (hp.not hk)) ev w he hev)
   have HN : Hid (numF s most st = { st with code := 1, fat := st.t.at_ }) := by
    unfold Hid numF FS.fail; rw [if_neg, if_pos hc]; rintro ⟨h1, _⟩; have := (FS.kin_kd h1).2; exact hk ((hp.good (by omega)).1.trans this)
   have HF := hide (HBad.out HN.out); clear h hp hk hts ho ht HBad
   go_enter Tryz.func89, Tryz.ntmps89
   go_wp2_with (go_at_call 110; refine KA.out.mono ?_)
   rintro e w1 ⟨N, rfl, -, -, hb1⟩; have HB := hide hb1; clear hb1
   go_wp2_with fail
   go_quiet (fail)
   have hbx : Below w.heap.size w (w1.drewN nq) := below_drewN HB.out nq; have KR := hide (refuse_calls rb mv s st _ (HBN.out _ hbx).1); have HBx := hide hbx; clear hbx
   go_wp2_with (go_at_call 39; refine KR.out.mono ?_)
   intro e W2 h4; have HE := hide (HF.out _ HBx.out e W2 h4); obtain ⟨fb, rfl, -⟩ := h4
   go_wp2_with fail
   exact ⟨rfl, HE.out⟩
def LvR (S : Nat -> Prop) (l : LvB) (e : Ending) (w' : World) : Prop := ∃ (k : Int) (nm : ByteArray) (A : Option Addr) (n c : Nat), e = .returned (.agg #[.int .i64 k, .string nm, .slice A n c]) /\ InP w' S l (.agg #[.int .i64 k, .string nm, .slice A n c])
def LBox (w : World) (b : Nat) (k : Int) (nm : ByteArray) (v : Value) : Prop := w.heap[b]? = some (.cells #[.int .i64 k, .string nm, v] 164 (0, 0))
section
variable {w w' : World} {b : Nat} {k : Int} {nm : ByteArray} {v : Value}
theorem LBox.lt (h : LBox w b k nm v) : b < w.heap.size := (Array.getElem?_eq_some_iff.1 h).1
theorem LBox.c0 (h : LBox w b k nm v) : w.cell? ⟨b, 0, none⟩ = some (.int .i64 k) := cell_of h 0 rfl
theorem LBox.c1 (h : LBox w b k nm v) : w.cell? ⟨b, 1, none⟩ = some (.string nm) := cell_of h 1 rfl
theorem LBox.c2 (h : LBox w b k nm v) : w.cell? ⟨b, 2, none⟩ = some v := cell_of h 2 rfl
theorem LBox.f (h : LBox w b k nm v) (i : Nat) : w.frozen? ⟨b, i, none⟩ = false := frozen_of h i
theorem LBox.of_block (h : LBox w b k nm v) (he : w'.heap[b]? = w.heap[b]?) : LBox w' b k nm v := by unfold LBox at *; rw [he]; exact h
theorem LBox.set3 (h : LBox w b k nm v) (k' : Int) (nm' : ByteArray) (v' : Value) : LBox (((w.setCell ⟨b, 0, none⟩ (.int .i64 k')).setCell ⟨b, 1, none⟩ (.string nm')).setCell ⟨b, 2, none⟩ v') b k' nm' v' := by
 unfold LBox at *; simp [World.setCell, Array.getElem?_modify, h]
end
abbrev set3 (W : World) (b : Nat) (u0 u1 u2 : Value) : World := ((W.setCell ⟨b, 0, none⟩ u0).setCell ⟨b, 1, none⟩ u1).setCell ⟨b, 2, none⟩ u2
theorem set3_block {W : World} {b r : Nat} {u0 u1 u2 : Value} (h : b ≠ r) : (set3 W r u0 u1 u2).heap[b]? = W.heap[b]? := by
 unfold set3; rw [Below.heap_setCell _ _ _ _ h, Below.heap_setCell _ _ _ _ h, Below.heap_setCell _ _ _ _ h]
theorem set3_below {w W : World} {r n : Nat} {u0 u1 u2 : Value} (hr : n <= r) (hb : Below n w W) : Below n w (set3 W r u0 u1 u2) :=
 ((hb.setCell (p := ⟨r, 0, none⟩) hr _).setCell (p := ⟨r, 1, none⟩) hr _).setCell (p := ⟨r, 2, none⟩) hr _
theorem set3_size {W : World} {r : Nat} {u0 u1 u2 : Value} : (set3 W r u0 u1 u2).heap.size = W.heap.size := by simp [set3, World.setCell]
theorem set3_touched {w W : World} {r m : Nat} {u0 u1 u2 : Value} (hr : w.heap.size <= r) (h : Touched w m W) : Touched w m (set3 W r u0 u1 u2) :=
 ((h.setNew (a := ⟨r, 0, none⟩) hr _).setNew (a := ⟨r, 1, none⟩) hr _).setNew (a := ⟨r, 2, none⟩) hr _
theorem InP.set3 {W : World} {S S' : Nat -> Prop} {r : Nat} {u0 u1 u2 : Value} {l : LvB} {v : Value} (h : InP W S l v) (hS : ∀ b, b < W.heap.size -> S b -> S' b /\ b ≠ r) : InP (set3 W r u0 u1 u2) S' l v :=
 h.keep fun b hb hs => ⟨(hS b hb hs).1, set3_block (hS b hb hs).2⟩
theorem three_at {W : World} {b : Nat} {k : Int} {nm : ByteArray} {A : Option Addr} {n c : Nat} (h : W.heap[b]? = some (.cells #[.int .i64 k, .string nm, .slice A n c] 164 (0, 0))) : Three W b 0 (.agg #[.int .i64 k, .string nm, .slice A n c]) :=
 ⟨k, nm, A, n, c, rfl, cell_of h 0 rfl, cell_of h 1 rfl, cell_of h 2 rfl⟩
theorem raised_calls (l : LvB) (n : Nat) (hn : n <= 200) (S : Nat -> Prop) (k : Int) (nm : ByteArray) (A : Option Addr) (m c : Nat) (w : World) (h : InP w S l (.agg #[.int .i64 k, .string nm, .slice A m c])) :
 Calls Tryz.prog 136 #[.agg #[.int .i64 k, .string nm, .slice A m c], .int .i64 (n : Nat)] w fun e w' => LvR (fun b => S b \/ w.heap.size <= b) (succN n l) e w' /\ Below w.heap.size w w' := by
 have hw1 : Below w.heap.size w ((w.alloc (.cells #[.int .i64 k, .string nm, .slice A m c] 164)).alloc (.cells #[.int .i64 0, .string ⟨#[]⟩, .slice none 0 0] 164)) := ((Below.refl _ _).alloc (Nat.le_refl _) _).alloc (by simp) _
 have HI0 : Hid (InP ((w.alloc (.cells #[.int .i64 k, .string nm, .slice A m c] 164)).alloc (.cells #[.int .i64 0, .string ⟨#[]⟩, .slice none 0 0] 164)) (fun b => (S b /\ b < w.heap.size) \/ w.heap.size + 2 <= b) l (.agg #[.int .i64 k, .string nm, .slice A m c])) := h.keep fun b hb hs => ⟨.inl ⟨hs, hb⟩, hw1.block b hb⟩
 have HB0 : Hid (LBox ((w.alloc (.cells #[.int .i64 k, .string nm, .slice A m c] 164)).alloc (.cells #[.int .i64 0, .string ⟨#[]⟩, .slice none 0 0] 164)) w.heap.size k nm (.slice A m c)) := (Below.heap_alloc _ _ _ (by simp)).trans (heap_alloc_new _ _)
 have HR0 : Hid (LBox ((w.alloc (.cells #[.int .i64 k, .string nm, .slice A m c] 164)).alloc (.cells #[.int .i64 0, .string ⟨#[]⟩, .slice none 0 0] 164)) (w.heap.size + 1) 0 ⟨#[]⟩ (.slice none 0 0)) := by
  have := heap_alloc_new (w.alloc (.cells #[.int .i64 k, .string nm, .slice A m c] 164)) (.cells #[.int .i64 0, .string ⟨#[]⟩, .slice none 0 0] 164)
  simpa [Hid, LBox] using this
 have HW1 := hide hw1; clear h hw1
 go_enter Tryz.func136, Tryz.ntmps136
 go_wp2_with fail
 go_loopg [6] n (fun g v wr => ∃ (j : Nat) (x : LvB) (k' : Int) (nm' : ByteArray) (A' : Option Addr) (m' c' : Nat), j + g = n /\ v = .int .i64 (j : Nat) /\ Hid (succN g x = succN n l) /\ Hid (LBox wr w.heap.size k' nm' (.slice A' m' c')) /\ Hid (LBox wr (w.heap.size + 1) 0 ⟨#[]⟩ (.slice none 0 0)) /\ Hid (InP wr (fun b => (S b /\ b < w.heap.size) \/ w.heap.size + 2 <= b) x (.agg #[.int .i64 k', .string nm', .slice A' m' c'])) /\ Hid (Below w.heap.size w wr))
 case atStart => exact ⟨0, l, k, nm, A, m, c, by omega, rfl, rfl, HB0.out, HR0.out, HI0.out, HW1.out⟩
 case round =>
  clear HB0 HR0 HI0 HW1; obtain ⟨j, x, k', nm', A', m', c', hjg, rfl, HS, HB, HR, HI, HW⟩ := hrel; have c0 := HB.out.c0; have c1 := HB.out.c1; have c2 := HB.out.c2; have cf := HB.out.f; have cl := HB.out.lt
  by_cases hj : j < n
  . have e1 : decide ((j : Int) < (n : Int)) = true := by simp; omega
    obtain ⟨g', rfl⟩ : ∃ g', gk = g' + 1 := ⟨gk - 1, by omega⟩
    go_wp2_with fail
    go_roundg g'
    case measure => omega
    case rel =>
     have hl2 := HR.out.lt; have hz := set3_size (W := wr) (r := w.heap.size) (u0 := .int .i64 1) (u1 := .string ⟨#[]⟩) (u2 := .slice (some ⟨wr.heap.size, 0, none⟩) 1 1)
     have hal : ∀ b, b < wr.heap.size -> ((set3 wr w.heap.size (.int .i64 1) (.string ⟨#[]⟩) (.slice (some ⟨wr.heap.size, 0, none⟩) 1 1)).alloc (.cells #[.int .i64 k', .string nm', .slice A' m' c'] 164)).heap[b]? = (set3 wr w.heap.size (.int .i64 1) (.string ⟨#[]⟩) (.slice (some ⟨wr.heap.size, 0, none⟩) 1 1)).heap[b]? := fun b hb => Below.heap_alloc _ _ _ (by rw [hz]; exact hb)
     have hnew := heap_alloc_new (set3 wr w.heap.size (.int .i64 1) (.string ⟨#[]⟩) (.slice (some ⟨wr.heap.size, 0, none⟩) 1 1)) (.cells #[.int .i64 k', .string nm', .slice A' m' c'] 164); rw [hz] at hnew
     refine ⟨j + 1, .succ x, 1, ⟨#[]⟩, some ⟨wr.heap.size, 0, none⟩, 1, 1, by omega, by go_num, HS.out, ?_, ?_, ?_, ?_⟩
     . exact (HB.out.set3 1 ⟨#[]⟩ _).of_block (hal _ (by omega))
     . exact HR.out.of_block ((hal _ hl2).trans (set3_block (by omega)))
     . refine ⟨wr.heap.size, 1, _, rfl, .inr (by omega), three_at hnew, HI.out.keep fun b hb hs => ⟨hs, (hal b hb).trans (set3_block (by omega))⟩⟩
     . exact (set3_below (Nat.le_refl _) HW.out).alloc (by rw [hz]; omega) _
  . have e1 : decide ((j : Int) < (n : Int)) = false := by simp; omega
    have hg0 : gk = 0 := by omega
    subst hg0; have r0 := HR.out.c0; have r1 := HR.out.c1; have r2 := HR.out.c2; have rf := HR.out.f; have rl := HR.out.lt
    go_wp2_with fail
    refine bodyPost_ret (v := .agg #[.int .i64 k', .string nm', .slice A' m' c']) (by simp [results, Tryz.results136, go_sem, r0, r1, r2]) rfl ?_; refine ⟨⟨k', nm', A', m', c', rfl, ?_⟩, set3_below (by omega) HW.out⟩
    have hS : succN n l = x := HS.out.symm; rw [hS]; exact InP.set3 HI.out (fun b _ hb => ⟨by rcases hb with hb | hb; exact .inl hb.1; exact .inr (by omega), by omega⟩)
theorem successors_calls (l : LvB) (S : Nat -> Prop) (k : Int) (nm : ByteArray) (A : Option Addr) (m c : Nat) (w : World) (h : InP w S l (.agg #[.int .i64 k, .string nm, .slice A m c])) (hc : chain l <= 1000000) :
 Calls Tryz.prog 146 #[.agg #[.int .i64 k, .string nm, .slice A m c]] w fun e w' => e = .returned (.int .i64 (chain l : Nat)) /\ Below w.heap.size w w' := by
 have hw1 : Below w.heap.size w (w.alloc (.cells #[.int .i64 k, .string nm, .slice A m c] 164)) := (Below.refl _ _).alloc (Nat.le_refl _) _
 have HI0 : Hid (InP (w.alloc (.cells #[.int .i64 k, .string nm, .slice A m c] 164)) (fun b => b < w.heap.size) l (.agg #[.int .i64 k, .string nm, .slice A m c])) := h.keep fun b hb hs => ⟨hb, hw1.block b hb⟩
 have HB0 : Hid (LBox (w.alloc (.cells #[.int .i64 k, .string nm, .slice A m c] 164)) w.heap.size k nm (.slice A m c)) := heap_alloc_new _ _; have HW1 := hide hw1; clear h hw1
 go_enter Tryz.func146, Tryz.ntmps146
 go_wp2_with fail
 go_loopg [3] (chain l) (fun g v wr => ∃ (j : Nat) (x : LvB) (k' : Int) (nm' : ByteArray) (A' : Option Addr) (m' c' : Nat), j + g = chain l /\ v = .int .i64 (j : Nat) /\ chain x = g /\ Hid (LBox wr w.heap.size k' nm' (.slice A' m' c')) /\ Hid (InP wr (fun b => b < w.heap.size) x (.agg #[.int .i64 k', .string nm', .slice A' m' c'])) /\ Hid (Below w.heap.size w wr))
 case atStart => exact ⟨0, l, k, nm, A, m, c, by omega, rfl, rfl, HB0.out, HI0.out, HW1.out⟩
 case round =>
  clear HB0 HI0 HW1; obtain ⟨j, x, k', nm', A', m', c', hjg, rfl, hcx, HB, HI, HW⟩ := hrel; have c0 := HB.out.c0; have c1 := HB.out.c1; have c2 := HB.out.c2; have cf := HB.out.f; have cl := HB.out.lt
  have hcase : (∃ (y : LvB) (b cap : Nat) (v : Value), x = .succ y /\ k' = 1 /\ A' = some ⟨b, 0, none⟩ /\ m' = 1 /\ b < w.heap.size /\ Three wr b 0 v /\ InP wr (fun b => b < w.heap.size) y v) \/ (k' ≠ 1 /\ chain x = 0) := by
   have hI := HI.out
   cases x with
   | zero => injection hI with hI; simp at hI; exact .inr ⟨by rw [hI.1]; decide, rfl⟩
   | param p => injection hI with hI; simp at hI; exact .inr ⟨by rw [hI.1]; decide, rfl⟩
   | succ y =>
     obtain ⟨b, cap, v, e, hb, h3, hy⟩ := hI; injection e with e
     simp at e
     exact .inl ⟨y, b, cap, v, rfl, e.1, e.2.2.1, e.2.2.2.1, hb, h3, hy⟩
   | max y z => obtain ⟨b, cap, v, u, e, _⟩ := hI; injection e with e; simp at e; exact .inr ⟨by rw [e.1]; decide, rfl⟩
   | imax y z => obtain ⟨b, cap, v, u, e, _⟩ := hI; injection e with e; simp at e; exact .inr ⟨by rw [e.1]; decide, rfl⟩
  rcases hcase with ⟨y, b, cap, v, rfl, rfl, rfl, rfl, hb, ⟨k2, nm2, A2, n2, c2', rfl, d0, d1, d2⟩, hy⟩ | ⟨hk, h0⟩
  . have HY := hide hy
    have hcy : chain y + 1 = gk := hcx; rw [Nat.zero_add] at d1 d2; have hne : ¬ b = w.heap.size := by omega
    clear hy
    go_wp2_with fail
    go_roundg (chain y)
    case measure => omega
    case rel =>
     refine ⟨j + 1, y, k2, nm2, A2, n2, c2', by omega, by go_num, rfl, HB.out.set3 _ _ _, InP.set3 HY.out (fun b _ hb => ⟨hb, by omega⟩), set3_below (Nat.le_refl _) HW.out⟩
  . have e1 : (k' == 1) = false := by simpa using hk
    have hg0 : gk = 0 := by omega
    clear hk
    go_wp2_with fail
    go_ret; exact ⟨ret_int (by omega), HW.out⟩
def TacM (w : World) (rb : Nat) (mv : Value) : Prop := ∃ (mb : Nat) (D : DataW Empty), mv = .map (some mb) /\ mb ≠ rb /\ mb < w.heap.size /\ w.ownsMap Tryz.prog 9 (plainElem Tryz.prog 3) mb 13 D /\ ∀ t : ByteArray, t.size <= 200000 -> D.atKey (.string t.data.toList) (.lit (.int .i64 0)) = .lit (.int .i64 (wordNo t tacWords 1 : Nat))
theorem TacM.of_block {w w' : World} {rb : Nat} {mv : Value} (h : TacM w rb mv) (hb : ∀ b, b < w.heap.size -> b ≠ rb -> w'.heap[b]? = w.heap[b]?) (hl : w.heap.size <= w'.heap.size) : TacM w' rb mv := by
 obtain ⟨mb, D, e, h1, h2, h3, h4⟩ := h; refine ⟨mb, D, e, h1, by omega, ?_, h4⟩; unfold World.ownsMap at *; rw [hb mb h2 h1]; exact h3
structure Rdy (w : World) (rb : Nat) (mv : Value) (s : ByteArray) (st : FS) : Prop where
 rd : RdS w rb mv s st
 ok : st.Ok s
 tb : Tb w
 tac : TacM w rb mv
 hs : s.size <= 200000
 hb : 8 < rb
section
variable {w w' : World} {rb : Nat} {mv : Value} {s : ByteArray} {st st' : FS}
theorem Rdy.code (h : Rdy w rb mv s st) : st.code = 0 := h.rd.1
theorem Rdy.lt (h : Rdy w rb mv s st) : rb < w.heap.size := h.rd.lt
theorem Rdy.next (h : Rdy w rb mv s st) (hr : RdS w' rb mv s st') (ho : st'.Ok s) (ht : Touched w rb w') : Rdy w' rb mv s st' :=
 ⟨hr, ho, h.tb.touched ht h.hb, h.tac.of_block (fun _ hb hne => ht.at hb hne) ht.size, h.hs, h.hb⟩
theorem Rdy.touched (h : Rdy w rb mv s st) (ht : Touched w rb w') (he : w'.heap[rb]? = w.heap[rb]?) : Rdy w' rb mv s st := h.next (h.rd.of_block he) h.ok ht
theorem Rdy.later (h : Rdy w rb mv s st) (hb : Below w.heap.size w w') : Rdy w' rb mv s st := h.next (h.rd.later hb) h.ok (Touched.of_below hb)
theorem Rdy.alloc (h : Rdy w rb mv s st) (o : Obj) : Rdy (w.alloc o) rb mv s st := h.later ((Below.refl _ _).alloc (Nat.le_refl _) _)
theorem Rdy.drew (h : Rdy w rb mv s st) : Rdy w.drew rb mv s st := h.later (Below.refl _ _).drew
theorem Rdy.set (h : Rdy w rb mv s st) {p : Addr} (hp : p.block ≠ rb) (hn : 8 < p.block) (hm : ∀ mb, mv = .map (some mb) -> p.block ≠ mb) (u : Value) : Rdy (w.setCell p u) rb mv s st := by
 have hz : (w.setCell p u).heap.size = w.heap.size := by simp [World.setCell]
 refine ⟨h.rd.of_block (Below.heap_setCell _ _ _ _ (fun e => hp e.symm)), h.ok, h.tb.of_blocks (fun k hk => Below.heap_setCell _ _ _ _ (by omega)) (by omega), ?_, h.hs, h.hb⟩; obtain ⟨mb, D, e, h1, h2, h3, h4⟩ := h.tac
 refine ⟨mb, D, e, h1, by omega, ?_, h4⟩; unfold World.ownsMap at *; rw [Below.heap_setCell _ _ _ _ (fun e' => hm mb e e'.symm)]; exact h3
end
theorem numF_ok {s : ByteArray} {st : FS} {most : Nat} (ho : st.Ok s) : (numF s most st).Ok s := by unfold numF; split; exact ho.step; exact ho.fail
def RQ (w : World) (rb : Nat) (mv : Value) (s : ByteArray) (st' : FS) (G : Ending -> World -> Prop) (e : Ending) (w' : World) : Prop :=
 (st'.code = 0 /\ G e w' /\ Rdy w' rb mv s st' /\ Touched w rb w') \/ (st'.code ≠ 0 /\ Threw w rb 1 st'.fat e w')
theorem RP.rq {w w' : World} {rb : Nat} {mv : Value} {s : ByteArray} {st st' : FS} {G : Ending -> World -> Prop} {e : Ending} (h : RP w rb mv s st' G e w') (h0 : Rdy w rb mv s st) (ho : st'.Ok s) : RQ w rb mv s st' G e w' := by
 rcases h with ⟨h1, h2, h3, h4⟩ | h
 . exact .inl ⟨h1, h2, h0.next h3 ho h4, h4⟩
 . exact .inr h
theorem RQ.bad {w w0 w' : World} {rb : Nat} {mv : Value} {s : ByteArray} {st' fin : FS} {G : Ending -> World -> Prop} {e : Ending} (hc : st'.code ≠ 0) (h : Threw w rb 1 st'.fat e w') (ht : Touched w0 rb w) (hf : fin = st') : RQ w0 rb mv s fin G e w' := by
 subst hf; exact .inr ⟨hc, h.from ht⟩
section
variable {rb : Nat} {mv : Value} {s : ByteArray} {st : FS} {w : World} (h : Rdy w rb mv s st)
include h
theorem tookQ (q : ByteArray) : Calls Tryz.prog 38 #[.pointer (some ⟨rb, 0, none⟩), .string q] w fun e w' => e = .returned (.bool (st.is q)) /\ Rdy w' rb mv s (if st.is q = true then st.step s else st) /\ Touched w rb w' :=
 (took_calls rb mv s st w h.rd h.hs h.ok h.tb.sg (by have := h.hb; omega) q).mono fun _ _ ⟨h1, h2, h3⟩ => ⟨h1, h.next h2 (by split; exact h.ok.step; exact h.ok) h3, h3⟩
theorem expectQ (q : ByteArray) : Calls Tryz.prog 29 #[.pointer (some ⟨rb, 0, none⟩), .string q] w fun e w' => RQ w rb mv s (st.must s q) (fun e _ => e = .returned (.tuple #[])) e w' :=
 (expect_calls rb mv s st w h.rd h.hs h.ok h.tb.sg (by have := h.hb; omega) q).mono fun _ _ h1 => h1.rq h h.ok.must
theorem takeQ (h3 : st.t.kd <= 3) : Calls Tryz.prog 40 #[.pointer (some ⟨rb, 0, none⟩)] w fun e w' => e = .returned (.agg #[.int .i64 (st.t.kd : Nat), .int .i64 (st.t.at_ : Nat), .string st.t.t]) /\ Rdy w' rb mv s (st.step s) /\ Touched w rb w' :=
 (take_calls rb mv s st w h.rd h.hs h.ok h.tb.sg (by have := h.hb; omega) h3).mono fun _ _ ⟨h1, h2, h3⟩ => ⟨h1, h.next h2 h.ok.step h3, h3⟩
theorem nameQ : Calls Tryz.prog 26 #[.pointer (some ⟨rb, 0, none⟩)] w fun e w' => RQ w rb mv s (st.name s).2 (fun e _ => e = .returned (.agg #[.int .i64 1, .int .i64 (st.t.at_ : Nat), .string (st.name s).1])) e w' :=
 (name_calls rb mv s st w h.rd h.hs h.ok h.tb.sg (by have := h.hb; omega)).mono fun _ _ h1 => h1.rq h h.ok.name
theorem numberQ (most : Nat) (hm : most <= 99) : Calls Tryz.prog 89 #[.pointer (some ⟨rb, 0, none⟩), .int .i64 (most : Nat)] w fun e w' => RQ w rb mv s (numF s most st) (fun e _ => e = .returned (.int .i64 (decV st.t.t : Nat))) e w' :=
 (number_calls rb mv s st w h.rd h.hs h.ok h.tb h.hb most hm).mono fun _ _ h1 => h1.rq h (numF_ok h.ok)
theorem refuseQ : Calls Tryz.prog 39 #[.pointer (some ⟨rb, 0, none⟩)] w fun e w' => Threw w rb 1 st.t.at_ e w' := refuse_calls rb mv s st w h.rd
theorem Rdy.kind : ∃ (k : Nat) (t : ByteArray), w.cell? ⟨rb, 1, none⟩ = some (.int .i64 (k : Nat)) /\ w.cell? ⟨rb, 2, none⟩ = some (.int .i64 (st.t.at_ : Nat)) /\ w.cell? ⟨rb, 3, none⟩ = some (.string t) /\
 (∀ j : Nat, j <= 1 -> ((k : Int) == (j : Int)) = (st.t.kd == j)) /\ (st.t.kd <= 3 -> k = st.t.kd /\ t = st.t.t) /\ (st.t.kd = 4 -> Odd t /\ (k = 4 \/ k = 2)) /\ t.size <= 200000 := by
 obtain ⟨h0, c, k, t, r, hw, hp, hz⟩ := h.rd; refine ⟨k, t, hw.c1, hw.c2, hw.c3, fun j hj => ?_, fun h3 => ⟨(hp.good h3).1, (hp.good h3).2.1⟩, fun h4 => ⟨(hp.bad h4).2, (hp.bad h4).1⟩, by have := h.hs; omega⟩
 have hk4 := h.ok.kd
 by_cases h3 : st.t.kd <= 3
 . rw [(hp.good h3).1, Bool.eq_iff_iff]; simp; omega
 . have := (hp.bad (by omega)).1
   rw [Bool.eq_iff_iff]; simp; omega
end
end Go.Proofs.YtockffblncdikaaGreatDoor
