/- The contract of remember. -/
import Derived.Test.YtockffblncdikaaGreatDoorXq
import Derived.Laws.StructEq
namespace Go.Proofs.YtockffblncdikaaGreatDoor
open Go.RowKit
set_option maxRecDepth 100000
set_option maxHeartbeats 16000000
theorem sameAddr_any {P : Program} (a b : Nat) : ∃ q, ∀ w : World, Opn w a -> Opn w b -> (∃ u, w.cell? ⟨a, 0, none⟩ = some u) -> (∃ u, w.cell? ⟨b, 0, none⟩ = some u) -> (sameAddr ⟨a, 0, none⟩ ⟨b, 0, none⟩).run P w = .ok q w := by
 by_cases h : a = b
 . subst h
   exact ⟨true, fun w _ _ _ _ => run_sameAddr_same w _⟩
 . refine ⟨false, fun w ha hb ua ub => ?_⟩
   have form : ∀ c, (∃ u, w.cell? ⟨c, 0, none⟩ = some u) -> ∃ vs T f, w.heap[c]? = some (.cells vs T f) := fun c ⟨u, hu⟩ => by
    unfold World.cell? at hu
    cases hh : w.heap[c]? with
    | none => simp [hh] at hu
    | some o =>
      cases o with
      | cells vs T f => exact ⟨vs, T, f, rfl⟩
      | _ => simp [hh] at hu
   obtain ⟨va, Ta, fa, ea⟩ := form a ua; obtain ⟨vb, Tb, fb, eb⟩ := form b ub; have h1 := ha 0; have h2 := hb 0; have h3 := ha va.size; have h4 := hb vb.size
   simp [sameAddr, h, h1, h2, noView, viewAt, World.shape?, ea, eb, mayBeOne, stringish, h3, h4]
theorem keyStruct : Tryz.prog.underlying 154 = some (.struct (Tryz.prog.fieldsOf 154)) := by kernel_rfl
theorem keyHeld : Tryz.prog.stoodInHeld 154 = false := by kernel_rfl
theorem size59 : (Tryz.prog.info? 59).map (·.size) = some 9 := by kernel_rfl
theorem key_eq {w0 : World} {n0 : Nat} {K K' : Value} (h : KeyF w0 n0 K) (h' : KeyF w0 n0 K') : ∃ q, ∀ w, KeyF w n0 K -> KeyF w n0 K' -> (Op.equal 154 K K').run Tryz.prog w = .ok q w := by
 obtain ⟨a, k, nm, im, rfl, _⟩ := h; obtain ⟨b, k', nm', im', rfl, _⟩ := h'; obtain ⟨q, hq0⟩ := sameAddr_any (P := Tryz.prog) a b; refine ⟨q && ((k == k') && ((nm.toList == nm'.toList) && (im == im'))), fun w h h' => ?_⟩
 obtain ⟨a2, _, _, _, e2, _, ha, ua⟩ := h; obtain ⟨b2, _, _, _, e3', _, hb, ub⟩ := h'
 simp at e2 e3'
 obtain ⟨rfl, rfl, rfl, rfl⟩ := e2; obtain ⟨rfl, rfl, rfl, rfl⟩ := e3'; have hq := hq0 w ha hb ua ub; obtain ⟨j, hj, hjs⟩ := Option.map_eq_some_iff.1 size59
 have hp : ∀ d, (Op.equalIn (d + 1) 88 (.pointer (some ⟨a, 0, none⟩)) (.pointer (some ⟨b, 0, none⟩))).run Tryz.prog w = .ok q w := fun d => by
  simp [Op.equalIn, run_underlying Tryz.underlying88, sizeOf, typeInfo, hj, hjs, hq]
 have e3 : ∀ d, (Op.equalIn (d + 1) 3 (.int .i64 k) (.int .i64 k')).run Tryz.prog w = .ok (k == k') w := fun d => run_equalIn_int w d 3 _ _ k k' Tryz.underlying3
 have e9 : ∀ d, (Op.equalIn (d + 1) 9 (.string nm) (.string nm')).run Tryz.prog w = .ok (nm.toList == nm'.toList) w := fun d => run_equalIn_string w d 9 nm nm' Tryz.underlying9
 have e4 : ∀ d, (Op.equalIn (d + 1) 4 (.bool im) (.bool im')).run Tryz.prog w = .ok (im == im') w := fun d => run_equalIn_bool w d 4 im im' Tryz.underlying4
 unfold Op.equal Op.maxDepth; rw [show (10000 : Nat) = 9999 + 1 from rfl, run_equalIn_struct w 9999 154 _ _ keyStruct keyHeld]; have hp1 := hp 9998; have e31 := e3 9998; have e91 := e9 9998; have e41 := e4 9998
 have u88 := Tryz.underlying88; have a88 := Tryz.isAgg88; have z88 := Tryz.sizeOf88; have a3 := Tryz.isAgg3; have z3 := Tryz.sizeOf3; have a9 := Tryz.isAgg9; have z9 := Tryz.sizeOf9; have a4 := Tryz.isAgg4
 have z4 := Tryz.sizeOf4
 simp only [Program.fieldsOf, Tryz.underlying154]
 clear hp e3 e9 e4 hq ha hb ua ub e31 e91 e41 hq0
 cases q
 . go_simp
 . go_simp
   by_cases h1 : k = k' <;> by_cases h2 : nm.toList = nm'.toList <;> by_cases h3 : im = im' <;> simp [h1, h2, h3]
theorem key_check {w : World} {n0 : Nat} {K : Value} (h : KeyF w n0 K) (b : Bool) (n : Nat) : (Instr.checkKey b (n + 2) 154 K).run Tryz.prog w = .ok () w := by
 obtain ⟨a, k, nm, im, rfl, _⟩ := h; have a88 := Tryz.isAgg88; have z88 := Tryz.sizeOf88; have a3 := Tryz.isAgg3; have z3 := Tryz.sizeOf3; have a9 := Tryz.isAgg9; have z9 := Tryz.sizeOf9; have a4 := Tryz.isAgg4
 have z4 := Tryz.sizeOf4
 simp only [Instr.checkKey, Sem.run_bind, run_underlying Tryz.underlying154, Result.andThen_ok]
 rw [<- Array.forIn_toList]
 simp only [List.forIn_cons, List.forIn_nil]
 simp only [Sem.run_bind]
 go_simp
theorem find_asking {w0 : World} {n0 : Nat} {K : Value} (hK : KeyF w0 n0 K) : ∀ (es : List MapEntry) (i : Nat), (∀ e ∈ es, KeyF w0 n0 e.key) -> ∃ r, (∀ w, KeyF w n0 K -> (∀ e ∈ es, KeyF w n0 e.key) -> (Instr.findAsking 154 K es i).run Tryz.prog w = .ok r w) /\ ∀ j v, r = some (j, v) -> ∃ e, e ∈ es /\ e.val = v /\ i <= j /\ es[j - i]? = some e
 | [], i, _ => ⟨none, fun _ _ _ => rfl, fun j v e => by cases e⟩
 | e :: es, i, h => by
   obtain ⟨q, hq0⟩ := key_eq hK (h e (by simp))
   cases q with
   | true =>
     refine ⟨some (i, e.val), fun w hk hh => ?_, fun j v he => ?_⟩
     . have hq := hq0 w hk (hh e (by simp))
       simp only [Instr.findAsking, Sem.run_bind, hq, Result.andThen_ok, if_true, Sem.run_pure]
     . injection he with he
       injection he with h1 h2; subst h1; subst h2; exact ⟨e, by simp, rfl, Nat.le_refl _, by simp⟩
   | false =>
     obtain ⟨r, hr, hv⟩ := find_asking hK es (i + 1) fun x hx => h x (by simp [hx])
     refine ⟨r, fun w hk hh => ?_, fun j v he => ?_⟩
     . have hq := hq0 w hk (hh e (by simp))
       simp only [Instr.findAsking, Sem.run_bind, hq, Result.andThen_ok, Bool.false_eq_true, if_false]
       exact hr w hk fun x hx => hh x (by simp [hx])
     . obtain ⟨x, hx, h1, h2, h3⟩ := hv j v he
       refine ⟨x, by simp [hx], h1, by omega, ?_⟩; rw [show j - i = (j - (i + 1)) + 1 by omega]
       simpa using h3
theorem find_key {w0 : World} {n0 : Nat} {K : Value} (hK : KeyF w0 n0 K) (es : List MapEntry) (h : ∀ e ∈ es, KeyF w0 n0 e.key) : ∃ r, (∀ w, KeyF w n0 K -> (∀ e ∈ es, KeyF w n0 e.key) -> (Instr.findKey 154 K es).run Tryz.prog w = .ok r w) /\ ∀ j v, r = some (j, v) -> ∃ e, e ∈ es /\ e.val = v /\ es[j]? = some e := by
 cases es with
 | nil =>
   refine ⟨none, fun w _ _ => ?_, fun j v e => by cases e⟩
   simp only [Instr.findKey, Sem.run_bind, run_underlying Tryz.underlying154, Result.andThen_ok, Instr.findNow, Sem.run_pure]
 | cons e es =>
   obtain ⟨r, hr, hv⟩ := find_asking hK (e :: es) 0 h; refine ⟨r, fun w hk hh => ?_, fun j v he => ?_⟩
   . have := hr w hk hh
     obtain ⟨a, k, nm, im, rfl, _⟩ := hK
     simp only [Instr.findKey, Sem.run_bind, run_underlying Tryz.underlying154, Result.andThen_ok, Instr.findNow, Instr.sameNow]
     exact this
   . obtain ⟨x, hx, h1, _, h3⟩ := hv j v he
     exact ⟨x, hx, h1, by simpa using h3⟩
theorem get_map {w : World} {r : Nat} {es : Array MapEntry} {c : Nat} (hb : w.heap[r]? = some (.map es c)) : (getObj r).run Tryz.prog w = .ok (.map es c) w := by simp [getObj, Sem.run, hb]
theorem set_map {w : World} {r : Nat} {es : Array MapEntry} {c : Nat} (o : Obj) (hb : w.heap[r]? = some (.map es c)) : (setObj r o).run Tryz.prog w = .ok () { w with heap := w.heap.setIfInBounds r o } := by simp [setObj, Sem.run, hb]
theorem map_lookup {w0 : World} {n0 mb n : Nat} {K : Value} (hM : MapOk w0 n0 mb n) (hK : KeyF w0 n0 K) : ∃ (f t : Nat) (ok : Bool), (∀ w, Below w0.heap.size w0 w -> n0 <= w0.heap.size -> (Instr.lookup 73 (.map (some mb)) K true).run Tryz.prog w = .ok (.tuple #[.agg #[.int .i64 ((f : Nat) : Int), .int .i64 ((t : Nat) : Int)], .bool ok]) w) /\ (ok = true -> f <= t /\ t <= n /\ 8388608 <= n) := by
 obtain ⟨_, es, c, hb, hne, hes⟩ := hM; have hlt : mb < w0.heap.size := (Array.getElem?_eq_some_iff.1 hb).1; obtain ⟨r, hr0, hv⟩ := find_key hK es.toList fun e he => (hes e he).1
 have key : ∀ w, Below w0.heap.size w0 w -> n0 <= w0.heap.size -> w.heap[mb]? = some (.map es c) /\ KeyF w n0 K /\ (Instr.findKey 154 K es.toList).run Tryz.prog w = .ok r w := fun w hw hn => by
  have hk := fun v (h : KeyF w0 n0 v) => h.keep (w' := w) fun b hb hl => hw.block b hl
  exact ⟨(hw.block mb hlt).trans hb, hk K hK, hr0 w (hk K hK) fun e he => hk _ (hes e he).1⟩
 cases r with
 | none =>
   refine ⟨0, 0, false, fun w hw hn => ?_, fun e => by cases e⟩; obtain ⟨hbw, hKw, hr⟩ := key w hw hn; have hc := key_check hKw es.isEmpty 9998
   simp only [Instr.lookup, Sem.run_bind, run_underlying Tryz.underlying73, Result.andThen_ok, get_map hbw, Sem.run_pure, hc, hr, Tryz.zeroValue152]
   rfl
 | some x =>
   obtain ⟨j, v⟩ := x; obtain ⟨e, he, h1, h2⟩ := hv j v rfl; obtain ⟨_, f, t, h3, h4, h5⟩ := hes e he
   have hpos : 0 < es.size := by
    have := List.length_pos_of_mem he
    simpa using this
   refine ⟨f, t, true, fun w hw hn => ?_, fun _ => ⟨h3, h4, hne hpos⟩⟩; obtain ⟨hbw, hKw, hr⟩ := key w hw hn; have hc := key_check hKw es.isEmpty 9998; rw [<- h1, h5] at hr
   simp only [Instr.lookup, Sem.run_bind, run_underlying Tryz.underlying73, Result.andThen_ok, get_map hbw, Sem.run_pure, hc, hr]
   rfl
theorem keeps_key (old new : Value) (w : World) : ∃ v W, (Instr.keyThatStays old new).run Tryz.prog w = .ok v W /\ (v = old \/ v = new) /\ (W = w \/ W = w.drew) := by
 unfold Instr.keyThatStays
 split
 . exact ⟨new, w, rfl, .inr rfl, .inl rfl⟩
 . simp only [Sem.run_bind, run_choose_drew]
   split
   . exact ⟨new, w, rfl, .inr rfl, .inl rfl⟩
   . simp only [Result.andThen_ok, Sem.run_pure]
     refine ⟨_, w.drew, rfl, ?_, .inr rfl⟩
     split
     . exact .inr rfl
     . exact .inl rfl
theorem map_update {w : World} {n0 mb n f t : Nat} {K : Value} (hM : MapOk w n0 mb n) (hK : KeyF w n0 K) (hft : f <= t) (htn : t <= n) : ∃ W, (Instr.mapUpdate 73 (.map (some mb)) K (.agg #[.int .i64 ((f : Nat) : Int), .int .i64 ((t : Nat) : Int)])).run Tryz.prog w = .ok () W /\ w.grownBy W (some mb) /\ ∃ es' c', W.heap[mb]? = some (.map es' c') /\ ∀ e ∈ es'.toList, KeyF w n0 e.key /\ ∃ f t : Nat, f <= t /\ t <= n /\ e.val = .agg #[.int .i64 (f : Nat), .int .i64 (t : Nat)] := by
 obtain ⟨_, es, c, hb, hne, hes⟩ := hM; have hlt : mb < w.heap.size := (Array.getElem?_eq_some_iff.1 hb).1; obtain ⟨r, hr0, hv⟩ := find_key hK es.toList fun e he => (hes e he).1
 have hr := hr0 w hK fun e he => (hes e he).1
 have hc := key_check hK false 9998
 have hset : ∀ (W : World) (o : Obj), W = w \/ W = w.drew -> w.grownBy { W with heap := W.heap.setIfInBounds mb o } (some mb) /\ ({ W with heap := W.heap.setIfInBounds mb o } : World).heap[mb]? = some o := fun W o hW => by
  have hh : W.heap = w.heap := by rcases hW with rfl | rfl <;> rfl
  refine ⟨⟨by rcases hW with rfl | rfl <;> rfl, by rcases hW with rfl | rfl <;> rfl, by rcases hW with rfl | rfl <;> rfl, by simp [hh], fun k _ hk => ?_⟩, ?_⟩
  . show (W.heap.setIfInBounds mb o)[k]? = _
    rw [hh, Array.getElem?_setIfInBounds_ne (fun e => hk (by rw [e]))]
  . show (W.heap.setIfInBounds mb o)[mb]? = _
    rw [hh, Array.getElem?_setIfInBounds_self_of_lt hlt]
 cases r with
 | none =>
   obtain ⟨h1, h2⟩ := hset w (.map (es.push { key := K, val := .agg #[.int .i64 ((f : Nat) : Int), .int .i64 ((t : Nat) : Int)], born := c }) (c + 1)) (.inl rfl); refine ⟨_, ?_, h1, _, _, h2, fun e he => ?_⟩
   . simp only [Instr.mapUpdate, Sem.run_bind, run_underlying Tryz.underlying73, Result.andThen_ok, get_map hb, hc, hr]
     exact set_map _ hb
   . rw [Array.toList_push, List.mem_append] at he
     rcases he with he | he
     . exact hes e he
     . rw [List.mem_singleton.1 he]
       exact ⟨hK, f, t, hft, htn, rfl⟩
 | some x =>
   obtain ⟨j, v⟩ := x; obtain ⟨e0, he0, h1, h2⟩ := hv j v rfl; obtain ⟨kv, W, hk1, hk2, hk3⟩ := keeps_key (((es[j]?).map (·.key)).getD K) K w; have hj : es[j]? = some e0 := by simpa using h2
   have hkv : KeyF w n0 kv := by
    rcases hk2 with rfl | rfl
    . rw [hj]
      exact (hes e0 he0).1
    . exact hK
   have hbW : W.heap[mb]? = some (.map es c) := by rcases hk3 with rfl | rfl <;> exact hb
   obtain ⟨h3, h4⟩ := hset W (.map (es.modify j fun e => { e with key := kv, val := .agg #[.int .i64 ((f : Nat) : Int), .int .i64 ((t : Nat) : Int)] }) c) hk3; refine ⟨_, ?_, h3, _, _, h4, fun e he => ?_⟩
   . simp only [Instr.mapUpdate, Sem.run_bind, run_underlying Tryz.underlying73, Result.andThen_ok, get_map hb, hc, hr, hk1]
     exact set_map _ hbW
   . obtain ⟨i, hi⟩ := List.mem_iff_getElem?.1 he
     rw [Array.getElem?_toList, Array.getElem?_modify] at hi
     split at hi
     . cases hx : es[i]? with
       | none => rw [hx] at hi; cases hi
       | some x =>
         rw [hx] at hi; injection hi with hi; subst hi; exact ⟨hkv, f, t, hft, htn, rfl⟩
     . exact hes e (by
        rw [List.mem_iff_getElem?]; exact ⟨i, by simpa using hi⟩)
section
variable {W : World} {n0 pb n : Nat} {wb : Wk} {tg : Bool} {l : List UInt8} {st : List Pc} {pp bv tv tac : Value} {mb : Nat} {B : Prop}
theorem PX.putMap (h : PX W n0 pb wb n l tg st pp bv tv mb tac) (hn : 8388608 <= n) {W2 : World} (hg : W.grownBy W2 (some mb)) (hm : ∃ es' c', W2.heap[mb]? = some (.map es' c') /\ ∀ e ∈ es'.toList, KeyF W n0 e.key /\ ∃ f t : Nat, f <= t /\ t <= n /\ e.val = .agg #[.int .i64 (f : Nat), .int .i64 (t : Nat)]) : PX W2 n0 pb wb n l tg st pp bv tv mb tac /\ Below n0 W W2 := by
 obtain ⟨hm0, es, c, hb, _⟩ := h.rest.map; obtain ⟨es', c', hb', hes⟩ := hm; have low : ∀ b, b < n0 -> b < W.heap.size -> W2.heap[b]? = W.heap[b]? := fun b hb hl => hg.block b hl fun e => by injection e with e; omega
 have hpm : some pb ≠ some mb := fun e => by injection e with e; rw [<- e, h.blk] at hb; cases hb
 refine ⟨⟨(hg.block pb h.lt hpm).trans h.blk, h.few, h.rest.lo, h.rest.stk.kept hg (.inr (ownsRow_ne_map h.rest.stk hb)), fun p hp => ?_, ⟨hm0, es', c', hb', fun _ => hn, fun e he => ⟨(hes e he).1.keep low, (hes e he).2⟩⟩, fun hw => ⟨(h.rest.buf hw).1, (h.rest.buf hw).2.kept hg (.inr (ownsRowF_ne_map (h.rest.buf hw).2 hb))⟩, ?_⟩, ⟨hg.os, hg.tape, hg.output, hg.size, fun k hk => ?_⟩⟩
 . have hq' := h.rest.ok p hp
   cases p with
   | tok t => exact hq'
   | ex e t b o k => exact ⟨hq'.1.keep fun b hl hb => ⟨hb, low b hb hl⟩, hq'.2⟩
   | lv x b o k => exact ⟨hq'.1.keep fun b hl hb => ⟨hb, low b hb hl⟩, hq'.2⟩
   | en e b o f => exact ⟨hq'.1.keep fun b hl hb => ⟨hb, low b hb hl⟩, hq'.2⟩
 . obtain ⟨tb, c1, e, h5, h6, h7, h8, h8', h9, hkp⟩ := h.rest.tac
   have hk := hg.block tb h7 (fun e => by injection e with e; subst e; exact h8' _ _ hb)
   exact ⟨tb, c1, e, h5, h6, Nat.lt_of_lt_of_le h7 hg.size, fun cs T f hb => h8 cs T f (hk ▸ hb), fun es c hb => h8' es c (hk ▸ hb), fun k hk' => (World.cell?_of_block (a := ⟨tb, k, none⟩) hk).trans (h9 k hk'), fun cs hc => (hg.block wb.k (Array.getElem?_eq_some_iff.1 (hkp cs hc)).1 (fun e => by injection e with e; have h0 := hkp cs hc; rw [e, hb] at h0; cases h0)).trans (hkp cs hc)⟩
 . have hl : k < W.heap.size := by have := h.lt; have := h.rest.lo; omega
   exact low k hk hl
theorem remember_calls (e : Ex) (b o f : Nat) (w : World) (h : PS w n0 pb wb l tg st) (hok : (Pc.en e b o f).Ok w n0) :
 Calls Tryz.prog 75 #[.pointer (some ⟨pb, 0, none⟩), .agg #[.string ⟨#[]⟩, .pointer (some ⟨b, o, none⟩), .pointer none, .int .i64 0, .bool true, .int .i64 (f : Nat)]] w fun r w' => r = .returned (.tuple #[]) /\ PS w' n0 pb wb l tg st /\ Below n0 w w' := by
 obtain ⟨hx, hxs, hf⟩ := hok; obtain ⟨pp, bv, tv, mb, tac, hX⟩ := h; obtain ⟨_, _, _, c3, _, _, _, _, c8, _, cf⟩ := hX.c; have hlo := hX.rest.lo; have hlt := hX.lt; have hfew := hX.few
 have hBx : Below w.heap.size w (w.alloc (.cells #[.string ⟨#[]⟩, .pointer (some ⟨b, o, none⟩), .pointer none, .int .i64 0, .bool true, .int .i64 (f : Nat)] 106)) := (Below.refl _ _).alloc (Nat.le_refl _) _
 have hne : ¬ pb = w.heap.size := by omega
 have F : ∀ W, Below w.heap.size w W -> PS W n0 pb wb l tg st /\ Below n0 w W := fun W hW => ⟨⟨_, _, _, _, _, hX.later hW⟩, hW.mono (by omega)⟩
 have HF := hide F; have hbx := heap_alloc_new w (.cells #[.string ⟨#[]⟩, .pointer (some ⟨b, o, none⟩), .pointer none, .int .i64 0, .bool true, .int .i64 (f : Nat)] 106); have mixed := Tryz.mixed
 by_cases hl : 8388608 <= l.length
 . have q1 : decide ((8388608 : Int) <= (l.length : Int)) = true := by simp; omega
   have hw : IntKind.i64.wrap ((l.length : Int) - (f : Int)) = (l.length : Int) - (f : Int) := by rw [IntKind.wrap_i64]; omega
   by_cases hd : 1024 + f <= l.length
   . have q2 : decide ((1024 : Int) <= (l.length : Int) - (f : Int)) = true := by simp; omega
     have HSh : Hid (∀ W, Below w.heap.size w W -> Calls Tryz.prog 91 #[.pointer (some ⟨b, o, none⟩)] W fun r w' => ∃ (g : Nat) (k : Int) (nm : ByteArray) (im : Bool), r = .returned (.agg #[.pointer (some ⟨g, 0, none⟩), .int .i64 k, .string nm, .bool im]) /\ Hid (∃ W2, (Instr.mapUpdate 73 (.map (some mb)) (.agg #[.pointer (some ⟨g, 0, none⟩), .int .i64 k, .string nm, .bool im]) (.agg #[.int .i64 ((f : Nat) : Int), .int .i64 ((l.length : Nat) : Int)])).run Tryz.prog w' = .ok () W2 /\ PS W2 n0 pb wb l tg st /\ Below n0 w W2 /\ w'.grownBy W2 (some mb)) /\ Below W.heap.size W w') := hide fun W hW => by
      have hx' : XAt W (fun b => b < n0) e b o := hx.keep fun b hb hs => ⟨hs, hW.block b hb⟩
      refine (shapeOf_calls e b o W hx' hxs).mono ?_; rintro r w' ⟨g, k, nm, im, he, hK, hb'⟩; have hBw : Below w.heap.size w w' := hW.trans (hb'.mono hW.size); have hXw := hX.later hBw
      have hKw : KeyF w' n0 (.agg #[.pointer (some ⟨g, 0, none⟩), .int .i64 k, .string nm, .bool im]) := hK.keep fun b hb hl => hb'.block b hl
      obtain ⟨W2, h1, h2, h3⟩ := map_update hXw.rest.map hKw (show f <= l.length by omega) (Nat.le_refl _); obtain ⟨h4, h5⟩ := hXw.putMap hl h2 h3
      exact ⟨g, k, nm, im, he, ⟨W2, h1, ⟨_, _, _, _, _, h4⟩, (hBw.mono (by omega)).trans h5, h2⟩, hb'⟩
     have G : ∀ W, Below w.heap.size w W -> W.cell? ⟨pb, 3, none⟩ = some (.int .i64 (l.length : Nat)) /\ W.cell? ⟨pb, 8, none⟩ = some (.map (some mb)) := fun W hW => ⟨cell_later hW c3, cell_later hW c8⟩
     have Bx : ∀ W, Below (w.heap.size + 1) (w.alloc (.cells #[.string ⟨#[]⟩, .pointer (some ⟨b, o, none⟩), .pointer none, .int .i64 0, .bool true, .int .i64 (f : Nat)] 106)) W -> W.cell? ⟨w.heap.size, 1, none⟩ = some (.pointer (some ⟨b, o, none⟩)) /\ W.cell? ⟨w.heap.size, 5, none⟩ = some (.int .i64 (f : Nat)) := fun W hW => ⟨(hW.cell (p := ⟨w.heap.size, 1, none⟩) (Nat.lt_succ_self _)).trans (cell_of hbx 1 rfl), (hW.cell (p := ⟨w.heap.size, 5, none⟩) (Nat.lt_succ_self _)).trans (cell_of hbx 5 rfl)⟩
     have c3b := cell_later hBx c3; have b5 := cell_of hbx 5 rfl
     have hpm : ¬ pb = mb := fun e => by
      obtain ⟨_, es, c, hb, _⟩ := hX.rest.map; rw [<- e, hX.blk] at hb
      cases hb
     have hxm : ¬ w.heap.size = mb := fun e => by have := hX.rest.map.lt; omega
     clear F hX hx; generalize ((l.length : Nat) : Int) = L at *; generalize ((f : Nat) : Int) = Fi at *
     go_enter Tryz.func75, Tryz.ntmps75
     go_wp2_with fail
     go_region_o
     all_goals
      go_wp2_with fail
      go_region_held3 (fun w' => (w'.cell? ⟨pb, 3, none⟩ = some (.int .i64 L) /\ w'.cell? ⟨pb, 8, none⟩ = some (.map (some mb))) /\ w'.cell? ⟨w.heap.size, 1, none⟩ = some (.pointer (some ⟨b, o, none⟩)) /\ w'.cell? ⟨w.heap.size, 5, none⟩ = some (.int .i64 Fi)) (first | assumption | exact ⟨G _ hBx.drew.drew, Bx _ (Below.refl _ _).drew.drew⟩ | exact ⟨G _ hBx.drew, Bx _ (Below.refl _ _).drew⟩) (first
       | (go_at_call 91
          refine (HSh.out _ hBx.drew.drew).mono ?_; intro r w1 h1; obtain ⟨g, k, nm, im, rfl, HU, hq1⟩ := h1; obtain ⟨W2, hrun, hP2, hB2, hg2⟩ := HU.out
          have hz1 : w.heap.size + 1 <= w1.heap.size := by have := hq1.size; simp at this; exact this
          have S1 : (w1.cell? ⟨pb, 3, none⟩ = some (.int .i64 L) /\ w1.cell? ⟨pb, 8, none⟩ = some (.map (some mb))) /\ w1.cell? ⟨w.heap.size, 1, none⟩ = some (.pointer (some ⟨b, o, none⟩)) /\ w1.cell? ⟨w.heap.size, 5, none⟩ = some (.int .i64 Fi) := ⟨G _ (hBx.trans (((Below.refl _ _).drew.drew.trans hq1).mono (by simp))), Bx _ (((Below.refl _ _).drew.drew.trans hq1).mono (by simp))⟩
          have S2 : (W2.cell? ⟨pb, 3, none⟩ = some (.int .i64 L) /\ W2.cell? ⟨pb, 8, none⟩ = some (.map (some mb))) /\ W2.cell? ⟨w.heap.size, 1, none⟩ = some (.pointer (some ⟨b, o, none⟩)) /\ W2.cell? ⟨w.heap.size, 5, none⟩ = some (.int .i64 Fi) := ⟨⟨hg2.cell S1.1.1 (by simpa using hpm), hg2.cell S1.1.2 (by simpa using hpm)⟩, hg2.cell S1.2.1 (by simpa using hxm), hg2.cell S1.2.2 (by simpa using hxm)⟩
          have HE2 := hide hP2; have HE3 := hide hB2; clear hP2 hB2 HU hq1 hg2))
      all_goals
       go_wp2_with fail
       go_end0; exact ⟨rfl, HE2.out, HE3.out⟩
   . have q2 : decide ((1024 : Int) <= (l.length : Int) - (f : Int)) = false := by simp; omega
     have c3b := cell_later hBx c3; have b5 := cell_of hbx 5 rfl; clear F hX hx c8; generalize ((l.length : Nat) : Int) = L at *; generalize ((f : Nat) : Int) = Fi at *
     go_enter Tryz.func75, Tryz.ntmps75
     go_wp2_with fail
     go_region_o
     all_goals
      go_wp2_with fail
      go_end0; exact ⟨rfl, HF.out _ hBx.drew⟩
 . have q1 : decide ((8388608 : Int) <= (l.length : Int)) = false := by simp; omega
   have c3b := cell_later hBx c3; have b5 := cell_of hbx 5 rfl; clear F hX hx c8; generalize ((l.length : Nat) : Int) = L at *; generalize ((f : Nat) : Int) = Fi at *
   go_enter Tryz.func75, Tryz.ntmps75
   go_wp2_with fail
   go_region_o
   all_goals
    go_wp2_with fail
    go_end0; exact ⟨rfl, HF.out _ hBx.drew⟩
end
end Go.Proofs.YtockffblncdikaaGreatDoor
