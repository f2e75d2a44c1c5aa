/- SyntaxReads holds: for every script the statement's function answers true and leaves the script as it was: the fixed text is printed as the document prints it, and of every text that Parse reads, what Print answers (where it is no longer than a text may be) is read again, and printed the same. The conditions: the tables that the program's text lays stand as laid when the call begins (tied to the text by the given tie). -/
import Derived.Test.YtockffblncdikaaGreatDoorLa
import Derived.Test.YtockffblncdikaaGreatDoorCards
import Derived.Test.YtockffblncdikaaGreatDoorTie
import Derived.LaidHandle
import Derived.LaidSub
import Derived.ProofKit
import Derived.OpenShut
import Derived.ShutString
import Derived.ChangeOld
import Derived.Below
import Derived.Deep.Slices
import Derived.LaidMore
import Derived.Stop.Joined
import Derived.SevenTiedAt
import Derived.Laws.EntriesVeiled
namespace Go.Proofs.YtockffblncdikaaGreatDoor
open Go.ChangeShapes Go.WideShapes Go.ChangeAt Go.RowKit
open Go.ChangeMaps (open_string shut_string)
theorem pcells3 : Tryz.prog.cellsOf 3 = 1 := by kernel_rfl
theorem pcells4 : Tryz.prog.cellsOf 4 = 1 := by kernel_rfl
theorem pcells9 : Tryz.prog.cellsOf 9 = 1 := by kernel_rfl
theorem pcells96 : Tryz.prog.cellsOf 96 = 5 := by kernel_rfl
theorem pcells124 : Tryz.prog.cellsOf 124 = 17 := by kernel_rfl
theorem pcells148 : Tryz.prog.cellsOf 148 = 4 := by kernel_rfl
theorem pcells149 : Tryz.prog.cellsOf 149 = 56 := by kernel_rfl
theorem gCw : Tryz.prog.globalNamed "provekernel/syntax.commandWords" = some 0 := by kernel_rfl
theorem tCw : (Tryz.prog.globals[0]?).map (·.type) = some 96 := by kernel_rfl
theorem gSg : Tryz.prog.globalNamed "provekernel/syntax.signs" = some 1 := by kernel_rfl
theorem tSg : (Tryz.prog.globals[1]?).map (·.type) = some 124 := by kernel_rfl
theorem gTs : Tryz.prog.globalNamed "provekernel/syntax.tacticShapes" = some 3 := by kernel_rfl
theorem tTs : (Tryz.prog.globals[3]?).map (·.type) = some 149 := by kernel_rfl
theorem gSyntax : Tryz.prog.globalNamed "strconv.ErrSyntax" = some 4 := by kernel_rfl
theorem tSyntax : (Tryz.prog.globals[4]?).map (·.type) = some 25 := by kernel_rfl
theorem gRange : Tryz.prog.globalNamed "strconv.ErrRange" = some 5 := by kernel_rfl
theorem tRange : (Tryz.prog.globals[5]?).map (·.type) = some 25 := by kernel_rfl
theorem str_of {s : ByteArray} {l : List UInt8} (h : s.data.toList = l) : s = ⟨l.toArray⟩ := by
 cases s; simp at h; subst h; simp
theorem strs_laid {W : World} {n : Nat} {T : TypeId} {cs : List Value} {qs : List (List UInt8)} {d : DataW Unit × List MemPlace} (hu : Tryz.prog.underlying T = some (.array qs.length 9)) (hc : Tryz.prog.cellsOf T = qs.length) (ht : DataW.trod (fun _ => ()) Tryz.prog W 0 (fun _ => true) false n T cs = some d) (hd : d.1 = .agg (qs.map fun q => .lit (.string q))) :
 cs = qs.map fun q => Value.string ⟨q.toArray⟩ := by
 obtain ⟨xs, m, _, rfl, hlen, hn, hel⟩ := DataW.trod_array hu ht; rw [hc] at hlen
 simp only [DataW.agg.injEq] at hd
 apply List.ext_getElem (by simp [hlen])
 intro i h1 h2; have hi : i < qs.length := by omega
 have r := hel i hi; rw [pcells9, Nat.mul_one, List.getElem?_eq_getElem (by omega)] at r; obtain ⟨s, e1, e2, _⟩ := DataW.trod_string Tryz.underlying9 r
 have e3 : cs[i] = .string s := by
  have : ((cs.drop i).take 1)[0]? = some (.string s) := by rw [e1]; rfl
  rw [List.getElem?_take_of_lt (by omega), List.getElem?_drop, Nat.add_zero, List.getElem?_eq_getElem h1] at this; exact Option.some.inj this
 have e4 : (xs[i]'(by omega)).1 = .lit (.string qs[i]) := by
  have : (xs.map (·.1))[i]'(by simp; omega) = (qs.map fun q => (DataW.lit (.string q) : DataW Unit))[i]'(by simpa using hi) := by simp only [hd]
  simpa using this
 rw [e2] at e4
 simp only [DataW.lit.injEq, Lit.string.injEq] at e4
 rw [e3, List.getElem_map, str_of e4]
abbrev lCw : List (String × DataW Unit) := [("provekernel/syntax.commandWords", Rows.laid_provekernel_syntax_commandWords)]
theorem lCw_of : Rows.syntaxReadsRow.laid.filter (fun x => x.1 == "provekernel/syntax.commandWords") = lCw := by
 simp [Rows.syntaxReadsRow, lCw]
set_option maxRecDepth 100000 in
theorem of_Cw {W : World} (h : laidMetH Tryz.prog Rows.syntaxReadsRow.laid W) : W.rangeAt 0 0 cwv := by
 have h := h.filter (fun x => x.1 == "provekernel/syntax.commandWords"); rw [lCw_of, MakeChecks.laidMetH_plain _ _ _ (by kernel_rfl)] at h; obtain ⟨ps, ⟨g0, t0, cs0, f0, p0, q0, hg0, ht0, hv0, hd0, _, _⟩, _, _⟩ := h
 obtain rfl := Option.some.inj (gCw.symm.trans hg0); obtain rfl := Option.some.inj (tCw.symm.trans ht0)
 have hl := strs_laid (qs := [[], [97, 120, 105, 111, 109], [100, 101, 102], [116, 104, 101, 111, 114, 101, 109], [105, 110, 100, 117, 99, 116, 105, 118, 101]]) Tryz.underlying96 pcells96 hd0 rfl
 have hc := World.var?_cell hg0 hv0; obtain ⟨l⟩ := cs0
 simp only at hl
 subst hl; intro j v hv; rw [Nat.zero_add, hc]
 simpa using hv
abbrev lSg : List (String × DataW Unit) := [("provekernel/syntax.signs", Rows.laid_provekernel_syntax_signs)]
theorem lSg_of : Rows.syntaxReadsRow.laid.filter (fun x => x.1 == "provekernel/syntax.signs") = lSg := by
 simp [Rows.syntaxReadsRow, lSg]
set_option maxRecDepth 100000 in
theorem of_Sg {W : World} (h : laidMetH Tryz.prog Rows.syntaxReadsRow.laid W) : W.rangeAt 1 0 sgv := by
 have h := h.filter (fun x => x.1 == "provekernel/syntax.signs"); rw [lSg_of, MakeChecks.laidMetH_plain _ _ _ (by kernel_rfl)] at h; obtain ⟨ps, ⟨g0, t0, cs0, f0, p0, q0, hg0, ht0, hv0, hd0, _, _⟩, _, _⟩ := h
 obtain rfl := Option.some.inj (gSg.symm.trans hg0); obtain rfl := Option.some.inj (tSg.symm.trans ht0)
 have hl := strs_laid (qs := [[58, 61], [61, 62], [45, 62], [46, 123], [40], [41], [123], [125], [64], [95], [58], [61], [44], [46], [59], [124], [43]]) Tryz.underlying124 pcells124 hd0 rfl
 have hc := World.var?_cell hg0 hv0; obtain ⟨l⟩ := cs0
 simp only at hl
 subst hl; intro j v hv; rw [Nat.zero_add, hc]
 simpa using hv
set_option maxRecDepth 100000 in
theorem shape4_cells {W : World} {n : Nat} {cs : List Value} {d : DataW Unit × List MemPlace} (ht : DataW.trod (fun _ => ()) Tryz.prog W 0 (fun _ => true) false n 148 cs = some d) :
 ∃ (a b j k : Bool), cs = [.bool a, .bool b, .bool j, .bool k] /\ d.1 = .agg [.lit (.bool a), .lit (.bool b), .lit (.bool j), .lit (.bool k)] := by
 obtain ⟨xs, m, _, hd, hlen, hxs, hf⟩ := DataW.trod_struct Tryz.underlying148 ht; rw [pcells148] at hlen
 match cs, hlen with
 | [v0, v1, v2, v3], _ =>
   match xs, hxs with
   | [z0, z1, z2, z3], _ =>
     have f0 : DataW.trod (fun _ => ()) Tryz.prog W 0 (fun _ => true) false m 4 (List.take (Tryz.prog.cellsOf 4) (List.drop 0 [v0, v1, v2, v3])) = some z0 := hf 0 _ rfl
     have f1 : DataW.trod (fun _ => ()) Tryz.prog W 0 (fun _ => true) false m 4 (List.take (Tryz.prog.cellsOf 4) (List.drop 1 [v0, v1, v2, v3])) = some z1 := hf 1 _ rfl
     have f2 : DataW.trod (fun _ => ()) Tryz.prog W 0 (fun _ => true) false m 4 (List.take (Tryz.prog.cellsOf 4) (List.drop 2 [v0, v1, v2, v3])) = some z2 := hf 2 _ rfl
     have f3 : DataW.trod (fun _ => ()) Tryz.prog W 0 (fun _ => true) false m 4 (List.take (Tryz.prog.cellsOf 4) (List.drop 3 [v0, v1, v2, v3])) = some z3 := hf 3 _ rfl; rw [pcells4] at f0 f1 f2 f3
     obtain ⟨a, h0, e0⟩ := DataW.trod_bool Tryz.underlying4 f0; obtain ⟨b, h1, e1⟩ := DataW.trod_bool Tryz.underlying4 f1; obtain ⟨j, h2, e2⟩ := DataW.trod_bool Tryz.underlying4 f2
     obtain ⟨k, h3, e3⟩ := DataW.trod_bool Tryz.underlying4 f3
     simp at h0 h1 h2 h3
     subst h0 h1 h2 h3; exact ⟨a, b, j, k, rfl, by rw [hd, e0, e1, e2, e3]; rfl⟩
abbrev lTs : List (String × DataW Unit) := [("provekernel/syntax.tacticShapes", Rows.laid_provekernel_syntax_tacticShapes)]
theorem lTs_of : Rows.syntaxReadsRow.laid.filter (fun x => x.1 == "provekernel/syntax.tacticShapes") = lTs := by
 simp [Rows.syntaxReadsRow, lTs]
theorem shapes_laid {W : World} {n : Nat} {cs : List Value} {qs : List (Bool × Bool × Bool × Bool)} {d : DataW Unit × List MemPlace} (hq : qs.length = 14) (ht : DataW.trod (fun _ => ()) Tryz.prog W 0 (fun _ => true) false n 149 cs = some d) (hd : d.1 = .agg (qs.map fun q => .agg [.lit (.bool q.1), .lit (.bool q.2.1), .lit (.bool q.2.2.1), .lit (.bool q.2.2.2)])) :
 cs = qs.flatMap fun q => [Value.bool q.1, .bool q.2.1, .bool q.2.2.1, .bool q.2.2.2] := by
 obtain ⟨xs, m, _, rfl, hlen, hn, hel⟩ := DataW.trod_array Tryz.underlying149 ht; rw [pcells149] at hlen
 simp only [DataW.agg.injEq] at hd
 have key : ∀ i, i < 14 -> ∀ q, qs[i]? = some q -> (cs.drop (i * 4)).take 4 = [.bool q.1, .bool q.2.1, .bool q.2.2.1, .bool q.2.2.2] := fun i hi q hqi => by
  have r := hel i hi; rw [pcells148, List.getElem?_eq_getElem (by omega)] at r; obtain ⟨a, b, j, k, e1, e2⟩ := shape4_cells r
  have e4 : (xs[i]'(by omega)).1 = .agg [.lit (.bool q.1), .lit (.bool q.2.1), .lit (.bool q.2.2.1), .lit (.bool q.2.2.2)] := by
   have h1 : (xs.map (·.1))[i]? = (qs.map fun q => (DataW.agg [.lit (.bool q.1), .lit (.bool q.2.1), .lit (.bool q.2.2.1), .lit (.bool q.2.2.2)] : DataW Unit))[i]? := by rw [hd]
   rw [List.getElem?_map, List.getElem?_map, hqi, List.getElem?_eq_getElem (by omega)] at h1; exact Option.some.inj h1
  rw [e2] at e4
  simp only [DataW.agg.injEq, List.cons.injEq, DataW.lit.injEq, Lit.bool.injEq, and_true] at e4
  obtain ⟨rfl, rfl, rfl, rfl⟩ := e4; exact e1
 have fl : ∀ (k : Nat) (l : List Value) (ps : List (Bool × Bool × Bool × Bool)), ps.length = k -> l.length = k * 4 -> (∀ i, i < k -> ∀ q, ps[i]? = some q -> (l.drop (i * 4)).take 4 = [.bool q.1, .bool q.2.1, .bool q.2.2.1, .bool q.2.2.2]) -> l = ps.flatMap fun q => [Value.bool q.1, .bool q.2.1, .bool q.2.2.1, .bool q.2.2.2] := by
  intro k
  induction k with
  | zero => intro l ps hp hl _; rw [List.length_eq_zero_iff.1 hp, List.length_eq_zero_iff.1 (by omega : l.length = 0)]; rfl
  | succ k ih =>
    intro l ps hp hl hk
    match ps, hp with
    | p :: ps, hp =>
      have h0 := hk 0 (by omega) p rfl; rw [Nat.zero_mul, List.drop_zero] at h0
      rw [List.flatMap_cons, <- h0, <- ih (l.drop 4) ps (by simpa using hp) (by simp; omega) (fun i hi q hqi => by
       have := hk (i + 1) (by omega) q (by simpa using hqi); rw [List.drop_drop]; rw [show 4 + i * 4 = (i + 1) * 4 by omega]; exact this), List.take_append_drop]
 exact fl 14 cs qs hq (by omega) key
set_option maxRecDepth 100000 in
theorem of_Ts {W : World} (h : laidMetH Tryz.prog Rows.syntaxReadsRow.laid W) : W.rangeAt 3 0 tsv := by
 have h := h.filter (fun x => x.1 == "provekernel/syntax.tacticShapes"); rw [lTs_of, MakeChecks.laidMetH_plain _ _ _ (by kernel_rfl)] at h; obtain ⟨ps, ⟨g0, t0, cs0, f0, p0, q0, hg0, ht0, hv0, hd0, _, _⟩, _, _⟩ := h
 obtain rfl := Option.some.inj (gTs.symm.trans hg0); obtain rfl := Option.some.inj (tTs.symm.trans ht0)
 have hl := shapes_laid (qs := [(false, false, false, false), (false, true, false, false), (false, false, false, true), (false, false, false, true), (false, false, false, false), (false, false, false, false), (true, false, false, false), (true, false, false, false), (false, false, false, true), (true, false, false, true), (false, false, true, false), (false, false, false, true), (false, false, false, false), (false, false, false, false)]) rfl hd0 rfl
 have hc := World.var?_cell hg0 hv0; obtain ⟨l⟩ := cs0
 simp only at hl
 subst hl; intro j v hv; rw [Nat.zero_add, hc]
 simpa using hv
theorem iface_of_trod {H : Type} {enc : TypeId × Value -> H} {P : Program} {t : TypeId} {ms : Array (String × TypeId)} (ht : P.underlying t = some (.interface ms)) {W : World} {base : Nat} {sp : Nat -> Bool} {held : Bool} {fuel : Nat} {cs : List Value} {y : DataW H × List MemPlace} (h : DataW.trod enc P W base sp held fuel t cs = some y) :
 ∃ v, cs = [v] /\ (v = .nilIface \/ ∃ u x, v = .iface u x) := by
 cases fuel with
 | zero => simp [DataW.trod] at h
 | succ n =>
   match cs, h with
   | [], h => simp [DataW.trod, ht] at h
   | [v], h =>
     refine ⟨v, rfl, ?_⟩
     cases v with
     | nilIface => exact .inl rfl
     | iface u x => exact .inr ⟨u, x, rfl⟩
     | _ => simp [DataW.trod, ht] at h
   | _ :: _ :: _, h => simp [DataW.trod, ht] at h
abbrev errs : List (String × DataW Unit) := [("strconv.ErrRange", Rows.laid_strconv_ErrRange), ("strconv.ErrSyntax", Rows.laid_strconv_ErrSyntax)]
theorem errs_of : Rows.syntaxReadsRow.laid.filter (fun x => x.1 == "strconv.ErrRange" || x.1 == "strconv.ErrSyntax") = errs := by
 simp [Rows.syntaxReadsRow, errs]
theorem err_vars {W : World} (h : laidMetH Tryz.prog Rows.syntaxReadsRow.laid W) : ErrVar W 4 /\ ErrVar W 5 := by
 have h := h.filter (fun x => x.1 == "strconv.ErrRange" || x.1 == "strconv.ErrSyntax"); rw [errs_of, MakeChecks.laidMetH_plain _ _ _ (by kernel_rfl)] at h
 obtain ⟨ps, ⟨g0, t0, cs0, f0, p0, q0, hg0, ht0, hv0, hd0, ⟨g1, t1, cs1, f1, p1, q1, hg1, ht1, hv1, hd1, _, _⟩, _⟩, _, _⟩ := h; obtain rfl := Option.some.inj (gRange.symm.trans hg0)
 obtain rfl := Option.some.inj (tRange.symm.trans ht0); obtain rfl := Option.some.inj (gSyntax.symm.trans hg1); obtain rfl := Option.some.inj (tSyntax.symm.trans ht1)
 obtain ⟨v0, e0, h0⟩ := iface_of_trod Tryz.underlying25 hd0; obtain ⟨v1, e1, h1⟩ := iface_of_trod Tryz.underlying25 hd1; refine ⟨⟨v1, ?_, h1⟩, ⟨v0, ?_, h0⟩⟩
 . have := World.var?_cell hg1 hv1 0
   obtain ⟨l⟩ := cs1
   simp at e1
   subst e1
   simpa using this
 . have := World.var?_cell hg0 hv0 0
   obtain ⟨l⟩ := cs0
   simp at e0
   subst e0
   simpa using this
theorem gPow : Tryz.prog.globalNamed "internal/strconv.uint64pow10" = some 6 := by kernel_rfl
theorem tPow : (Tryz.prog.globals[6]?).map (·.type) = some 197 := by kernel_rfl
abbrev pwl : List (String × DataW Unit) := [("internal/strconv.uint64pow10", Rows.laid_internal_strconv_uint64pow10)]
theorem pwl_of : Rows.syntaxReadsRow.laid.filter (fun x => x.1 == "internal/strconv.uint64pow10") = pwl := by
 simp [Rows.syntaxReadsRow, pwl]
theorem of_laid3 {W : World} (h : laidMetH Tryz.prog Rows.syntaxReadsRow.laid W) : Pow10 W /\ 6 < W.heap.size := by
 have h := h.filter (fun x => x.1 == "internal/strconv.uint64pow10"); rw [pwl_of, MakeChecks.laidMetH_plain _ _ _ (by kernel_rfl)] at h
 have hp : Pow10 W := Lib.tabIs_of_head (k := .u64) (zs := Lib.pow10Tab) (rest := []) gPow tPow Tryz.underlying197 Tryz.underlying183 (by kernel_rfl) (by kernel_rfl) h
 exact ⟨hp, World.block_lt_of_cell? _ _ (Lib.TabIs.cell hp gPow 0 (by decide))⟩
theorem gB32 : Tryz.prog.globalNamed "math/bits.deBruijn64tab" = some 8 := by kernel_rfl
abbrev lB : List (String × DataW Unit) := [("math/bits.deBruijn64tab", Rows.laid_math_bits_deBruijn64tab)]
theorem lB_of : Rows.syntaxReadsRow.laid.filter (fun x => x.1 == "math/bits.deBruijn64tab") = lB := by
 simp [Rows.syntaxReadsRow, lB]
theorem pcells210 : Tryz.prog.cellsOf 210 = 64 := by kernel_rfl
theorem tB : (Tryz.prog.globals[8]?).map (·.type) = some 210 := by kernel_rfl
set_option maxRecDepth 100000 in
theorem of_B {W : World} (h : laidMetH Tryz.prog Rows.syntaxReadsRow.laid W) : 8 < W.heap.size := by
 have h := h.filter (fun x => x.1 == "math/bits.deBruijn64tab"); rw [lB_of, MakeChecks.laidMetH_plain _ _ _ (by kernel_rfl)] at h; obtain ⟨ps, ⟨g0, t0, cs0, f0, p0, q0, hg0, ht0, hv0, hd0, _, _⟩, _, _⟩ := h
 obtain rfl := Option.some.inj (gB32.symm.trans hg0); obtain rfl := Option.some.inj (tB.symm.trans ht0); obtain ⟨xs, m, _, hx, hlen, hn, hel⟩ := DataW.trod_array Tryz.underlying210 hd0; rw [pcells210] at hlen
 have hc := World.var?_cell hg0 hv0 0; obtain ⟨l⟩ := cs0
 match l, hlen with
 | v :: l, _ => exact World.block_lt_of_cell? W ⟨8, 0, none⟩ (u := v) (by simpa using hc)
theorem of_laid {W : World} (h : laidMetH Tryz.prog Rows.syntaxReadsRow.laid W) : Tb W :=
 ⟨of_Sg h, of_Cw h, of_Ts h, (err_vars h).1, (err_vars h).2, (of_laid3 h).1, of_B h⟩
theorem fits_wf {x : Int} (h : (Lit.int .i64 x).wf = true) : -9223372036854775808 <= x /\ x <= 9223372036854775807 := by
 unfold Lit.wf at h
 simp [IntKind.min, IntKind.max, IntKind.bits, IntKind.signed] at h
 omega
theorem door_met (os : Os) (args : Array Value) : laidMetH Tryz.prog Rows.syntaxReadsRow.laid ((World.doorLaid Tryz.prog 400 os).forCall (fun _ _ => 0) ⟨#[], args, []⟩).memory :=
 laidMetH_of_parts3 (fuel := 8) (laidMet_of_run' 8 (by kernel_rfl) (by kernel_rfl)) (by kernel_rfl) (by kernel_rfl)
theorem own : ownKnob Tryz.prog.godebug = none := by kernel_rfl
theorem laidOut : laidOutB Tryz.prog = true := by kernel_rfl
theorem pcells30 : Tryz.prog.cellsOf 30 = 6 := by kernel_rfl
set_option maxRecDepth 100000 in
theorem op_cells {H : Type} {enc : TypeId × Value -> H} {W : World} {base n : Nat} {spare : Nat -> Bool} {held : Bool} {cs : List Value} {d : DataW H × List MemPlace} (ht : DataW.trod enc Tryz.prog W base spare held n 30 cs = some d) :
 ∃ (kd x y : Int) (S T U : ByteArray), cs = [.int .i64 kd, .string S, .string T, .string U, .int .i64 x, .int .i64 y] /\ S.size <= maxLen /\ T.size <= maxLen /\ U.size <= maxLen /\ (-9223372036854775808 <= x /\ x <= 9223372036854775807 /\ -9223372036854775808 <= y /\ y <= 9223372036854775807) := by
 obtain ⟨xs, m, _, _, hlen, hxs, hf⟩ := DataW.trod_struct Tryz.underlying30 ht; rw [pcells30] at hlen
 match cs, hlen with
 | [v0, v1, v2, v3, v4, v5], _ =>
   have g : ∀ i, i < 6 -> ∃ z, xs[i]? = some z := fun i hi => ⟨xs[i]'(by rw [hxs]; exact hi), List.getElem?_eq_getElem _⟩
   obtain ⟨z0, e0⟩ := g 0 (by omega); obtain ⟨z1, e1⟩ := g 1 (by omega); obtain ⟨z2, e2⟩ := g 2 (by omega); obtain ⟨z3, e3⟩ := g 3 (by omega); obtain ⟨z4, e4⟩ := g 4 (by omega); obtain ⟨z5, e5⟩ := g 5 (by omega)
   have f0 : DataW.trod enc Tryz.prog W base spare held m 3 (List.take (Tryz.prog.cellsOf 3) (List.drop 0 [v0, v1, v2, v3, v4, v5])) = some z0 := (hf 0 _ rfl).trans e0; rw [pcells3] at f0
   have f1 : DataW.trod enc Tryz.prog W base spare held m 9 (List.take (Tryz.prog.cellsOf 9) (List.drop 1 [v0, v1, v2, v3, v4, v5])) = some z1 := (hf 1 _ rfl).trans e1; rw [pcells9] at f1
   have f2 : DataW.trod enc Tryz.prog W base spare held m 9 (List.take (Tryz.prog.cellsOf 9) (List.drop 2 [v0, v1, v2, v3, v4, v5])) = some z2 := (hf 2 _ rfl).trans e2; rw [pcells9] at f2
   have f3 : DataW.trod enc Tryz.prog W base spare held m 9 (List.take (Tryz.prog.cellsOf 9) (List.drop 3 [v0, v1, v2, v3, v4, v5])) = some z3 := (hf 3 _ rfl).trans e3; rw [pcells9] at f3
   have f4 : DataW.trod enc Tryz.prog W base spare held m 3 (List.take (Tryz.prog.cellsOf 3) (List.drop 4 [v0, v1, v2, v3, v4, v5])) = some z4 := (hf 4 _ rfl).trans e4; rw [pcells3] at f4
   have f5 : DataW.trod enc Tryz.prog W base spare held m 3 (List.take (Tryz.prog.cellsOf 3) (List.drop 5 [v0, v1, v2, v3, v4, v5])) = some z5 := (hf 5 _ rfl).trans e5; rw [pcells3] at f5
   obtain ⟨kd, h0, _⟩ := DataW.trod_int Tryz.underlying3 f0; obtain ⟨S, h1, _, hS⟩ := DataW.trod_string Tryz.underlying9 f1; obtain ⟨T, h2, _, hT⟩ := DataW.trod_string Tryz.underlying9 f2
   obtain ⟨U, h3, _, hU⟩ := DataW.trod_string Tryz.underlying9 f3; obtain ⟨x, h4, _, hx⟩ := DataW.trod_int Tryz.underlying3 f4; obtain ⟨y, h5, _, hy⟩ := DataW.trod_int Tryz.underlying3 f5
   simp at h0 h1 h2 h3 h4 h5
   subst h0 h1 h2 h3 h4 h5; exact ⟨kd, x, y, S, T, U, rfl, hS, hT, hU, (fits_wf hx).1, (fits_wf hx).2, (fits_wf hy).1, (fits_wf hy).2⟩
set_option maxRecDepth 100000 in
theorem lifted (os : Os) (started : os.Started) (H : Type) (enc : TypeId × Value -> H) :
 ReturnsInHanded {} Tryz.checked os 3 .any (fun w args => (Rows.syntaxReadsSpec.pre enc Tryz.prog Tryz.f3 [] false w args /\ laidMetH Tryz.prog Rows.syntaxReadsRow.laid w) /\ sizedMet enc Tryz.prog Tryz.f3 (OpenSpec.ofChange Rows.syntaxReadsSpec) false w args)
  (Rows.syntaxReadsSpec.post enc Tryz.prog Tryz.f3 false true false false) := by
 refine returnsInHanded_of_change_and (C := Tryz.checked) (X := fun w _ => laidMetH Tryz.prog Rows.syntaxReadsRow.laid w) (fun _ _ _ hh h => h.of_heap hh) own started (by kernel_rfl) Tryz.func3
  (ChangeSpec.witness_shaped (enc := enc) (C := Tryz.checked) (os := os) (X := fun w _ => laidMetH Tryz.prog Rows.syntaxReadsRow.laid w) false (World.doorLaid Tryz.prog 400 os) #[.slice none 0 0] 8 rfl (World.shaped_of_RefB (by kernel_rfl) (by kernel_rfl)) (by kernel_rfl) (by kernel_rfl) (by kernel_rfl) (door_met os _)) ?_
 intro W base args ds gs before hval0 hW _ _ hL _; have hval : ∀ (j : Nat) t v, Tryz.f3.params[j]? = some t -> args[j]? = some v -> Value.okWide Tryz.prog W .any base t v := hval0; have hW' := hW
 obtain ⟨p, q, hA0, hV, rfl, hfz, hnd⟩ := hW; have hA : DataW.TrodAll enc Tryz.prog W 0 (fun _ => true) true Tryz.f3.params.toList args.toList ds p := hA0; rw [Tryz.params3] at hA hval
 obtain ⟨v0, vs0, d0, ds0, p0, q0, hargs, rfl, rfl, h0, r0⟩ := trodAll_cons hA; obtain ⟨rfl, rfl, rfl⟩ := trodAll_nil r0; obtain rfl : args = #[v0] := by cases args; simp_all
 obtain ⟨rfl, rfl⟩ := trodVars_none hV; obtain ⟨a0, len0, cap0, rfl⟩ := okWide_slice Tryz.underlying22 (hval 0 22 v0 rfl rfl); have k0 := h0
 have lt0 : ∀ x ∈ p0, x.block < W.heap.size := by obtain ⟨m, hm⟩ := k0; exact DataW.trod_lt m _ _ _ hm
 have w0 : IsOps W a0 len0 := by
  obtain ⟨fuel, hf⟩ := h0
  rcases Deep.open_slice Tryz.underlying22 hf with ⟨hcs, _⟩ | ⟨x, l, c, m, n, D, Pl, hcs, _, hl, hm, hmm, _, hel⟩
  . simp [Value.cells] at hcs
    obtain ⟨rfl, rfl, rfl⟩ := hcs; exact ⟨by unfold maxLen; omega, fun i hi => absurd hi (by omega)⟩
  . simp [Value.cells] at hcs
    obtain ⟨rfl, rfl, rfl⟩ := hcs; refine ⟨by omega, fun i hi => ?_⟩; have hmi : ∀ j, j < len0 -> j < m := fun j hj => by rw [hmm]; simp; omega
    obtain ⟨b, off, spot⟩ := x
    have hspot : spot = none := by
     obtain ⟨cs, hc, ht⟩ := hel 0 (hmi 0 (by omega)); obtain ⟨kd, x, y, S, T, U, rfl, _⟩ := op_cells ht; rw [pcells30] at hc; have := (World.cells?_some hc).2.2 0 (by omega)
     simpa [Addr.add] using World.cell?_spot this
    subst hspot; obtain ⟨cs, hc, ht⟩ := hel i (hmi i hi); obtain ⟨kd, x, y, S, T, U, rfl, hS, _⟩ := op_cells ht; rw [pcells30] at hc; have hcell := (World.cells?_some hc).2.2; have g1 := hcell 1 (by omega)
    simp only [Addr.add_lit] at g1
    exact ⟨b, off, S, rfl, hS, g1⟩
 clear hA0 hval0; refine (reads_walk a0 len0 cap0 W w0 (of_laid hL)).mono fun e W' ⟨he, bel⟩ => ?_
 subst he
 exact ⟨_, rfl, _, _, _, [], _, [], hW', trodAll_mk1 (shut_bool Tryz.underlying4 _), (trodAll_cons_mk (Below.trod laidOut (by kernel_rfl) (of_decide_eq_true (by kernel_rfl)) k0 bel lt0) trodAll_mk0), rfl, bel.frame _, fun h => by cases h⟩
theorem row_holds : Rows.SyntaxReadsSaid :=
 OpenClaim.holds_of_wide 3 Tryz.f3 rfl rfl rfl rfl rfl rfl rfl ⟨rfl, rfl, rfl, rfl, rfl⟩ rfl rfl rfl rfl rfl (by kernel_rfl) Tryz.func3 (by kernel_rfl)
  (of_decide_eq_true (by kernel_rfl)) (by unfold Func.isWrapper; first | (rw [if_pos (by decide +kernel)]; kernel_rfl) | (rw [if_neg (by decide +kernel)]; exact ⟨rfl, rfl⟩))
  (fun os started H enc _ => lifted os started H enc)
#print axioms row_holds
theorem syntaxReads_holds : Rows.SyntaxReadsCardSaid :=
 Claim7.holds_tied_plain_at .later [] [.data, .data, .data, .sentinel, .sentinel, .data, .data, .data] true (true, "b26789c189ebd03d54cfa3050893b2ffc7421216f707adde2570d97dfad5c3c0") true
  row_holds (fun _ h => by cases h) (by kernel_rfl) (fun _ h => by cases h) syntaxReads_row_tie rfl ⟨rfl, rfl⟩ (by kernel_rfl) rfl
  (fun f fn hf hfn => by
    obtain rfl : f = 3 := Option.some.inj ((show Tryz.prog.funcNamed "provekernel/provekernellaw.SyntaxReads" = some 3 by kernel_rfl).symm.trans hf) |>.symm
    obtain rfl : fn = Tryz.f3 := (Option.some.inj (Tryz.func3.symm.trans hfn)).symm
    exact ⟨by kernel_rfl, fun j t ht => by
     rw [Tryz.params3] at ht; have hm : t ∈ [22] := by simpa using Array.mem_of_getElem? ht
     have hall : ([22].all fun u => !Tryz.prog.wantsStandIn u) = true := by kernel_rfl
     exact (show Tryz.prog.wantsStandIn t = false by simpa using List.all_eq_true.1 hall t hm)⟩)
  (by kernel_rfl)
#print axioms syntaxReads_holds
end Go.Proofs.YtockffblncdikaaGreatDoor
