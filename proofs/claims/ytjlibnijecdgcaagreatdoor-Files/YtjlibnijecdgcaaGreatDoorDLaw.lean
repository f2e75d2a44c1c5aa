/- errors.As at a *api.Fault and a target of that type, by its contract: Go's own text of it is walked (after the guide's worked example for such a target, at this program's numbers). -/
import Derived.Test.YtjlibnijecdgcaaGreatDoorTok
import Derived.WalkKit
import Derived.LaidEql
import Derived.Stop.Asserts
import Derived.RowKitTokens
import Derived.Test.YtjlibnijecdgcaaGreatDoorFRead
import Derived.Test.YtjlibnijecdgcaaGreatDoorDFile
import Derived.Test.YtjlibnijecdgcaaGreatDoorDSame
import Derived.Test.YtjlibnijecdgcaaGreatDoorDPrint
import Derived.Deep.RegionHeld3

namespace Go.Proofs.YtjlibnijecdgcaaGreatDoor
open Go.RowKit Go.Extern.Stop Go.Stop Go.Extern

theorem as_nil (t : Value) (w : World) :
    Calls Tryz.prog 35 #[.nilIface, t] w fun e w' => e = .returned (.bool false) ∧ w' = w := by
  go_enter Tryz.func35, Tryz.ntmps35
  go_wp2
  go_ret
  exact ⟨rfl, rfl⟩

theorem Tryz.valueOf27 (t : Addr) (w : World) : (ReflectliteValue.unpack (.iface 86 (.pointer (some t)))).run Tryz.prog w
    = .ok (.agg #[.pointer (some ⟨12, 86, none⟩), .pointer (some ⟨w.heap.size, 0, none⟩), .int .u64 150]) (w.alloc (.cells #[.pointer (some t)] 86)) := by kernel_rfl
theorem Tryz.type27 (a : Addr) (w : World) : (ReflectliteValue.methodAny (ReflectliteValue.valueError "reflectlite.Value.Type" 0) (fun t _ _ _ => ReflectliteType.toType t) #[.agg #[.pointer (some ⟨12, 86, none⟩), .pointer (some a), .int .u64 150]]).run Tryz.prog w
    = .ok (.iface 136 (.agg #[.pointer (some ⟨12, 86, none⟩)])) w := by kernel_rfl
theorem Tryz.methodKind (h : Value) (w : World) : (Go.method 323 136 (.agg #[h]) "Kind").run Tryz.prog w = .ok (140, h) w := by kernel_rfl
theorem Tryz.kind27 (w : World) : ((ReflectliteType.abiMethod fun t => (fun a : Nat => Value.int IntKind.u8 (a : Int)) <$> Rtype.kind t) #[.pointer (some ⟨12, 86, none⟩)]).run Tryz.prog w = .ok (.int .u8 22) w := by kernel_rfl
theorem Tryz.kind25 (w : World) : ((ReflectliteType.abiMethod fun t => (fun a : Nat => Value.int IntKind.u8 (a : Int)) <$> Rtype.kind t) #[.pointer (some ⟨12, 84, none⟩)]).run Tryz.prog w = .ok (.int .u8 22) w := by kernel_rfl

theorem rlm (z : Sem Value) (f : TypeId → Addr → Nat → Nat → Sem Value) (v : Value) :
    ReflectliteValue.method z f #[v] = (do match ← ReflectliteValue.parts v with | none => z | some (t, a, fl) => f t a fl (fl % 32)) := rfl
theorem Tryz.parts27 (a : Addr) (w : World) : (ReflectliteValue.parts (.agg #[.pointer (some ⟨12, 86, none⟩), .pointer (some a), .int .u64 150])).run Tryz.prog w = .ok (some (86, a, 150)) w := by kernel_rfl
theorem Tryz.isNil27 (a p : Addr) (W : World) (ha : W.cell? a = some (.pointer (some p))) :
    (ReflectliteValue.method (ReflectliteValue.valueError "reflectlite.Value.IsNil" 0) ReflectliteValue.isNil #[.agg #[.pointer (some ⟨12, 86, none⟩), .pointer (some a), .int .u64 150]]).run Tryz.prog W = .ok (.bool false) W := by
  rw [rlm]
  simp only [Sem.run_bind, Tryz.parts27, Result.andThen]
  simp [ReflectliteValue.isNil, loadVar, isAgg, underlying, Tryz.underlying86, ha, Result.andThen]

theorem Tryz.methodElem (h : Value) (w : World) : (Go.method 323 136 (.agg #[h]) "Elem").run Tryz.prog w = .ok (151, .agg #[h]) w := by kernel_rfl
theorem Tryz.methodImplements (h : Value) (w : World) : (Go.method 323 136 (.agg #[h]) "Implements").run Tryz.prog w = .ok (152, .agg #[h]) w := by kernel_rfl
theorem Tryz.methodAssignableTo (h : Value) (w : World) : (Go.method 323 136 (.agg #[h]) "AssignableTo").run Tryz.prog w = .ok (149, .agg #[h]) w := by kernel_rfl
theorem Tryz.elem27 (w : World) : (ReflectliteType.method ReflectliteType.elem #[.agg #[.pointer (some ⟨12, 86, none⟩)]]).run Tryz.prog w = .ok (.iface 136 (.agg #[.pointer (some ⟨12, 84, none⟩)])) w := by kernel_rfl
theorem Tryz.implements25 (w : World) : (ReflectliteType.relation "Implements" ReflectliteType.implements_ #[.agg #[.pointer (some ⟨12, 84, none⟩)], .iface 136 (.agg #[.pointer (some ⟨12, 29, none⟩)])]).run Tryz.prog w = .ok (.bool true) w := by kernel_rfl
theorem Tryz.typeOf25 (v : Value) (w : World) : (ReflectliteType.typeOf #[.iface 84 v]).run Tryz.prog w = .ok (.iface 136 (.agg #[.pointer (some ⟨12, 84, none⟩)])) w := by kernel_rfl
theorem Tryz.assignable25 (w : World) : (ReflectliteType.relation "AssignableTo" ReflectliteType.assignableTo #[.agg #[.pointer (some ⟨12, 84, none⟩)], .iface 136 (.agg #[.pointer (some ⟨12, 84, none⟩)])]).run Tryz.prog w = .ok (.bool true) w := by kernel_rfl
theorem Tryz.valueOf25 (e : Addr) (w : World) : (ReflectliteValue.unpack (.iface 84 (.pointer (some e)))).run Tryz.prog w
    = .ok (.agg #[.pointer (some ⟨12, 84, none⟩), .pointer (some ⟨w.heap.size, 0, none⟩), .int .u64 150]) (w.alloc (.cells #[.pointer (some e)] 84)) := by kernel_rfl

theorem Tryz.elemOf27 (w : World) : (Rtype.elem? 86).run Tryz.prog w = .ok (some 84) w := by kernel_rfl
theorem Tryz.mk25 (p : Addr) (w : World) : (ReflectliteValue.mk 84 p ReflectliteValue.flagAddr).run Tryz.prog w = .ok (.agg #[.pointer (some ⟨12, 84, none⟩), .pointer (some p), .int .u64 406]) w := by kernel_rfl
theorem Tryz.elemV27 (a p : Addr) (W : World) (ha : W.cell? a = some (.pointer (some p))) :
    (ReflectliteValue.method (ReflectliteValue.valueError "reflectlite.Value.Elem" 0) ReflectliteValue.elem #[.agg #[.pointer (some ⟨12, 86, none⟩), .pointer (some a), .int .u64 150]]).run Tryz.prog W
      = .ok (.agg #[.pointer (some ⟨12, 84, none⟩), .pointer (some p), .int .u64 406]) W := by
  rw [rlm]
  simp only [Sem.run_bind, Tryz.parts27, Result.andThen]
  simp [ReflectliteValue.elem, loadVar, isAgg, underlying, Tryz.underlying86, ha, Result.andThen, Tryz.elemOf27, Tryz.mk25]
theorem rls (v x : Value) : ReflectliteValue.set #[v, x] = (do
    let (some (dst, a, fl), some (src, b, _)) := (← ReflectliteValue.parts v, ← ReflectliteValue.parts x)
      | unsupported (.noEntry "extern/(internal/reflectlite.Value).Set.zeroValue")
    if fl / ReflectliteValue.flagAddr % 2 == 0 then unsupported (.noEntry "extern/(internal/reflectlite.Value).Set.unaddressable")
    let val ← loadVar src b
    if ← Rtype.directlyAssignable dst src then storeVar dst a val
    else if ← Rtype.implements dst src then
      if (← Rtype.kind src) == 20 then
        match val with
        | .nilIface => unsupported (.noEntry "extern/reflectlite: a nil value of one interface type handed on as a value of another")
        | _ => storeVar dst a val
      else storeVar dst a (.iface src val)
    else panicString ("reflectlite.Set: value of type " ++ (← Rtype.spelt src) ++ " is not assignable to type " ++ (← Rtype.spelt dst))
    pure (.tuple #[])) := rfl
theorem Tryz.parts25a (a : Addr) (w : World) : (ReflectliteValue.parts (.agg #[.pointer (some ⟨12, 84, none⟩), .pointer (some a), .int .u64 406])).run Tryz.prog w = .ok (some (84, a, 406)) w := by kernel_rfl
theorem Tryz.parts25 (a : Addr) (w : World) : (ReflectliteValue.parts (.agg #[.pointer (some ⟨12, 84, none⟩), .pointer (some a), .int .u64 150])).run Tryz.prog w = .ok (some (84, a, 150)) w := by kernel_rfl
theorem Tryz.direct25 (w : World) : (Rtype.directlyAssignable 84 84).run Tryz.prog w = .ok true w := by kernel_rfl
theorem Tryz.size25 (w : World) : (sizeOf 84).run Tryz.prog w = .ok 1 w := by kernel_rfl
theorem Tryz.set25 (ta b e : Addr) (old : Value) (W : World) (hb : W.cell? b = some (.pointer (some e))) (ht : W.cell? ta = some old) (hf : W.frozen? ta = false) :
    (ReflectliteValue.set #[.agg #[.pointer (some ⟨12, 84, none⟩), .pointer (some ta), .int .u64 406], .agg #[.pointer (some ⟨12, 84, none⟩), .pointer (some b), .int .u64 150]]).run Tryz.prog W
      = .ok (.tuple #[]) (W.setCell ta (.pointer (some e))) := by
  rw [rls]
  simp only [Sem.run_bind, Tryz.parts25a, Tryz.parts25, Result.andThen]
  simp [ReflectliteValue.flagAddr, loadVar, isAgg, underlying, Tryz.underlying84, hb, Result.andThen, Tryz.direct25, storeVar, Value.cells, storeCells, Addr.add]
  rw [run_store Tryz.prog W ta _ _ (by rfl)]
  simp [ht, hf]

set_option maxRecDepth 100000 in
set_option maxHeartbeats 4000000 in
theorem as_hit (e t : Addr) (old : Value) (w : World) (hg : w.cell? ⟨2, 0, none⟩ = some (.iface 136 (.agg #[.pointer (some ⟨12, 29, none⟩)]))) (ht0 : w.cell? t = some old) (hf0 : w.frozen? t = false) :
    Calls Tryz.prog 35 #[.iface 84 (.pointer (some e)), .iface 86 (.pointer (some t))] w fun ev w' => ev = .returned (.bool true) ∧ w' = ((((w.alloc (.cells #[.pointer (some t)] 86)).alloc (.cells #[.pointer (some ⟨12, 86, none⟩), .pointer (some ⟨w.heap.size, 0, none⟩), .int .u64 150] 111)).alloc (.cells #[.pointer (some ⟨12, 86, none⟩), .pointer (some ⟨w.heap.size, 0, none⟩), .int .u64 150] 111)).alloc (.cells #[.pointer (some e)] 84)).setCell t (.pointer (some e)) := by
  have h6 := @run_callFunc_extern Tryz.prog 62 _ (fun args => ReflectliteValue.unpack (args.getD 0 (.tuple #[]))) Tryz.func62 (by kernel_rfl) (by kernel_rfl) (by kernel_rfl) (by kernel_rfl)
  have h7 := @run_callFunc_extern Tryz.prog 63 _ (ReflectliteValue.methodAny (ReflectliteValue.valueError "reflectlite.Value.Type" 0) (fun t _ _ _ => ReflectliteType.toType t)) Tryz.func63 (by kernel_rfl) (by kernel_rfl) (by kernel_rfl) (by kernel_rfl)
  have h8 := @run_callFunc_extern Tryz.prog 64 _ (ReflectliteValue.method (ReflectliteValue.valueError "reflectlite.Value.IsNil" 0) ReflectliteValue.isNil) Tryz.func64 (by kernel_rfl) (by kernel_rfl) (by kernel_rfl) (by kernel_rfl)
  have h27 := @run_callFunc_extern Tryz.prog 140 _ (ReflectliteType.abiMethod fun t => do pure (.int .u8 (← Rtype.kind t))) Tryz.func140 (by kernel_rfl) (by kernel_rfl) (by kernel_rfl) (by kernel_rfl)
  have h37 := @run_callFunc_extern Tryz.prog 151 _ (ReflectliteType.method ReflectliteType.elem) Tryz.func151 (by kernel_rfl) (by kernel_rfl) (by kernel_rfl) (by kernel_rfl)
  have h38 := @run_callFunc_extern Tryz.prog 152 _ (ReflectliteType.relation "Implements" ReflectliteType.implements_) Tryz.func152 (by kernel_rfl) (by kernel_rfl) (by kernel_rfl) (by kernel_rfl)
  have h10 := @run_callFunc_extern Tryz.prog 81 _ ReflectliteType.typeOf Tryz.func81 (by kernel_rfl) (by kernel_rfl) (by kernel_rfl) (by kernel_rfl)
  have h35 := @run_callFunc_extern Tryz.prog 149 _ (ReflectliteType.relation "AssignableTo" ReflectliteType.assignableTo) Tryz.func149 (by kernel_rfl) (by kernel_rfl) (by kernel_rfl) (by kernel_rfl)
  have h11 := @run_callFunc_extern Tryz.prog 82 _ (ReflectliteValue.method (ReflectliteValue.valueError "reflectlite.Value.Elem" 0) ReflectliteValue.elem) Tryz.func82 (by kernel_rfl) (by kernel_rfl) (by kernel_rfl) (by kernel_rfl)
  have h12 := @run_callFunc_extern Tryz.prog 83 _ ReflectliteValue.set Tryz.func83 (by kernel_rfl) (by kernel_rfl) (by kernel_rfl) (by kernel_rfl)
  have tO := Tryz.typeOf25
  have mA := Tryz.methodAssignableTo
  have a25 := Tryz.assignable25
  have v25 := Tryz.valueOf25
  have f6 := Tryz.valueOf27
  have f7 := Tryz.type27
  have mK := Tryz.methodKind
  have mE := Tryz.methodElem
  have mI := Tryz.methodImplements
  have k27 := Tryz.kind27
  have k25 := Tryz.kind25
  have e27 := Tryz.elem27
  have i25 := Tryz.implements25
  have n8 := Tryz.isNil27 ⟨w.heap.size, 0, none⟩ t ((w.alloc (.cells #[.pointer (some t)] 86)).alloc (.cells #[.pointer (some ⟨12, 86, none⟩), .pointer (some ⟨w.heap.size, 0, none⟩), .int .u64 150] 111)) (by simp)
  have hlt : 2 < w.heap.size := World.block_lt_of_cell? _ _ hg
  have hg2 : ((w.alloc (.cells #[.pointer (some t)] 86)).alloc (.cells #[.pointer (some ⟨12, 86, none⟩), .pointer (some ⟨w.heap.size, 0, none⟩), .int .u64 150] 111)).cell? ⟨2, 0, none⟩ = some (.iface 136 (.agg #[.pointer (some ⟨12, 29, none⟩)])) := by
    rw [World.cell?_alloc_lt _ _ ⟨2, 0, none⟩ (by simp; omega), World.cell?_alloc_lt _ _ ⟨2, 0, none⟩ hlt]; exact hg
  have htl : t.block < w.heap.size := by
    rcases Nat.lt_or_ge t.block w.heap.size with h | h
    · exact h
    · simp [World.cell?, Array.getElem?_eq_none h] at ht0
  have el := Tryz.elemV27 ⟨w.heap.size, 0, none⟩ t (((w.alloc (.cells #[.pointer (some t)] 86)).alloc (.cells #[.pointer (some ⟨12, 86, none⟩), .pointer (some ⟨w.heap.size, 0, none⟩), .int .u64 150] 111)).alloc (.cells #[.pointer (some ⟨12, 86, none⟩), .pointer (some ⟨w.heap.size, 0, none⟩), .int .u64 150] 111)) (by rw [World.cell?_alloc_lt _ _ ⟨w.heap.size, 0, none⟩ (by simp; omega)]; simp)
  have st := Tryz.set25 t ⟨w.heap.size + 1 + 1 + 1, 0, none⟩ e old ((((w.alloc (.cells #[.pointer (some t)] 86)).alloc (.cells #[.pointer (some ⟨12, 86, none⟩), .pointer (some ⟨w.heap.size, 0, none⟩), .int .u64 150] 111)).alloc (.cells #[.pointer (some ⟨12, 86, none⟩), .pointer (some ⟨w.heap.size, 0, none⟩), .int .u64 150] 111)).alloc (.cells #[.pointer (some e)] 84))
    (by rw [World.cell?_alloc_at _ _ _ _ (by simp)]; rfl)
    (by rw [World.cell?_alloc_lt _ _ t (by simp; omega), World.cell?_alloc_lt _ _ t (by simp; omega), World.cell?_alloc_lt _ _ t (by simp; omega), World.cell?_alloc_lt _ _ t htl]; exact ht0)
    (by rw [World.frozen?_alloc_old _ _ t (by simp; omega), World.frozen?_alloc_old _ _ t (by simp; omega), World.frozen?_alloc_old _ _ t (by simp; omega), World.frozen?_alloc_old _ _ t (Nat.ne_of_lt htl)]; exact hf0)
  go_enter Tryz.func35, Tryz.ntmps35
  go_wp2
  refine wp_loop_rounds 1 ?_
  rw [rounds_succ]
  go_wp2
  go_ret
  exact ⟨rfl, rfl⟩
end Go.Proofs.YtjlibnijecdgcaaGreatDoor

/- The contracts of api.Code and of the law's faulty. -/
namespace Go.Proofs.YtjlibnijecdgcaaGreatDoor
open Go.RowKit

/-- The handle of the type error. -/
structure HdT (w : World) : Prop where
  c : w.cell? ⟨2, 0, none⟩ = some (.iface 136 (.agg #[.pointer (some ⟨12, 29, none⟩)]))
theorem HdT.later {w w' : World} (h : HdT w) (hb : Below w.heap.size w w') : HdT w' := ⟨cell_later hb h.c⟩

/-- errors.As finds the fault. -/
theorem as_fault (N t : Nat) (w : World) (hg : HdT w) (ht : w.heap[t]? = some (.cells #[.pointer none] 84 (0, 0))) :
    Calls Tryz.prog 35 #[.iface 84 (.pointer (some ⟨N, 0, none⟩)), .iface 86 (.pointer (some ⟨t, 0, none⟩))] w fun e w' => e = .returned (.bool true) ∧ w'.heap[t]? = some (.cells #[.pointer (some ⟨N, 0, none⟩)] 84 (0, 0)) ∧ Touched w t w' := by
  have hlt : t < w.heap.size := (Array.getElem?_eq_some_iff.1 ht).1
  refine (as_hit ⟨N, 0, none⟩ ⟨t, 0, none⟩ (.pointer none) w hg.c (by simp [World.cell?, ht]) (by simp [World.frozen?, ht])).mono ?_
  rintro e w' ⟨rfl, rfl⟩
  refine ⟨rfl, ?_, ?_⟩
  · have h4 : ((((w.alloc (.cells #[.pointer (some ⟨t, 0, none⟩)] 86)).alloc (.cells #[.pointer (some ⟨12, 86, none⟩), .pointer (some ⟨w.heap.size, 0, none⟩), .int .u64 150] 111)).alloc (.cells #[.pointer (some ⟨12, 86, none⟩), .pointer (some ⟨w.heap.size, 0, none⟩), .int .u64 150] 111)).alloc (.cells #[.pointer (some ⟨N, 0, none⟩)] 84)).heap[t]? = some (.cells #[.pointer none] 84 (0, 0)) := by
      rw [Below.heap_alloc _ _ _ (by simp; omega), Below.heap_alloc _ _ _ (by simp; omega), Below.heap_alloc _ _ _ (by simp; omega), Below.heap_alloc _ _ _ hlt]
      exact ht
    generalize ((((w.alloc _).alloc _).alloc _).alloc _) = W at h4 ⊢
    simp [World.setCell, Array.getElem?_modify, h4]
  · exact ((((Touched.alloc w t _).trans (Touched.alloc _ t _)).trans (Touched.alloc _ t _)).trans (Touched.alloc _ t _)).setSelf rfl _

set_option maxHeartbeats 1000000 in
theorem code_nil (w : World) : Calls Tryz.prog 16 #[.nilIface] w fun e w' => e = .returned (.tuple #[.int .i64 0, .int .i64 0]) ∧ w' = w := by
  go_enter Tryz.func16, Tryz.ntmps16
  go_wp2_with fail
  go_ret2
  exact ⟨rfl, rfl⟩

set_option maxRecDepth 100000 in
set_option maxHeartbeats 4000000 in
theorem code_fault (N code a : Nat) (w : World) (hg : HdT w) (hF : w.heap[N]? = some (.cells #[.int .i64 (code : Nat), .int .i64 (a : Nat)] 33 (0, 0))) :
    Calls Tryz.prog 16 #[.iface 84 (.pointer (some ⟨N, 0, none⟩))] w fun e w' => e = .returned (.tuple #[.int .i64 (code : Nat), .int .i64 (a : Nat)]) ∧ Below w.heap.size w w' := by
  have hlN : N < w.heap.size := (Array.getElem?_eq_some_iff.1 hF).1
  have K1 := hide (as_fault N w.heap.size _ (hg.later ((Below.refl _ _).alloc (Nat.le_refl _) (.cells #[.pointer none] 84))) (heap_alloc_new w (.cells #[.pointer none] 84)))
  have HF := hide hF
  clear hg hF
  go_enter Tryz.func16, Tryz.ntmps16
  go_wp2_with (go_at_call 35; refine K1.out.mono ?_)
  rintro e w1 ⟨rfl, h1, hT⟩
  have hz := hT.size
  simp at hz
  have hN1 : w1.heap[N]? = some (.cells #[.int .i64 (code : Nat), .int .i64 (a : Nat)] 33 (0, 0)) := by
    rw [hT.block N (by simp; omega) (by simp; omega), Below.heap_alloc _ _ _ hlN]
    exact HF.out
  have x0 : w1.cell? ⟨w.heap.size, 0, none⟩ = some (.pointer (some ⟨N, 0, none⟩)) := by simp [World.cell?, h1]
  have y0 : w1.cell? ⟨N, 0, none⟩ = some (.int .i64 (code : Nat)) := by simp [World.cell?, hN1]
  have y1 : w1.cell? ⟨N, 1, none⟩ = some (.int .i64 (a : Nat)) := by simp [World.cell?, hN1]
  have HB : Hid (Below w.heap.size w w1) := ((Touched.alloc w w.heap.size _).trans hT).below (Nat.le_refl _) (Nat.le_refl _)
  clear hN1 h1 hT
  go_wp2_with fail
  go_region
  all_goals
    go_wp2_with fail
    go_ret2
    exact ⟨rfl, HB.out.drew⟩

set_option maxHeartbeats 1000000 in
theorem faulty_none (a : Nat) (w : World) : Calls Tryz.prog 7 #[.nilIface, .agg #[.int .i64 (0 : Nat), .int .i64 (a : Nat)]] w fun e w' => e = .returned (.bool true) ∧ Below w.heap.size w w' := by
  have K := hide (fun W => code_nil W)
  go_enter Tryz.func7, Tryz.ntmps7
  go_wp2_with (go_at_call 16; refine (K.out _).mono ?_)
  rintro e w' ⟨rfl, rfl⟩
  go_wp2_with fail
  go_ret
  exact ⟨rfl, (Below.refl _ _).alloc (Nat.le_refl _) _⟩

set_option maxHeartbeats 1000000 in
theorem faulty_same (N code a : Nat) (w : World) (hg : HdT w) (hF : w.heap[N]? = some (.cells #[.int .i64 (code : Nat), .int .i64 (a : Nat)] 33 (0, 0))) (hc : code ≠ 0) :
    Calls Tryz.prog 7 #[.iface 84 (.pointer (some ⟨N, 0, none⟩)), .agg #[.int .i64 (code : Nat), .int .i64 (a : Nat)]] w fun e w' => e = .returned (.bool true) ∧ Below w.heap.size w w' := by
  have hlN : N < w.heap.size := (Array.getElem?_eq_some_iff.1 hF).1
  have K := hide (code_fault N code a (w.alloc (.cells #[.int .i64 (code : Nat), .int .i64 (a : Nat)] 33)) (hg.later ((Below.refl _ _).alloc (Nat.le_refl _) _)) (by rw [Below.heap_alloc _ _ _ hlN]; exact hF))
  have e0 : ((code : Int) == 0) = false := by simp; omega
  clear hg hF hc
  go_enter Tryz.func7, Tryz.ntmps7
  go_wp2_with (go_at_call 16; refine K.out.mono ?_)
  rintro e w1 ⟨rfl, hb⟩
  have x0 : w1.cell? ⟨w.heap.size, 0, none⟩ = some (.int .i64 (code : Nat)) := by rw [hb.cell (by simp)]; simp
  have x1 : w1.cell? ⟨w.heap.size, 1, none⟩ = some (.int .i64 (a : Nat)) := by rw [hb.cell (by simp)]; simp
  have HB : Hid (Below w.heap.size w w1) := ((Below.refl w.heap.size w).alloc (Nat.le_refl _) _).trans (hb.mono (by simp))
  clear hb
  go_wp2_with fail
  go_ret
  exact ⟨by simp, HB.out⟩


end Go.Proofs.YtjlibnijecdgcaaGreatDoor

/- The contract of the law's filed: the program and the document read a text alike, and print what was read alike. -/
namespace Go.Proofs.YtjlibnijecdgcaaGreatDoor
open Go.RowKit

theorem FileIs.fit {s : ByteArray} {D : Nat} {ds : List Dc} (h : FileIs s D ds) (hD : 200000 < D) : (ftext D ds).length ≤ 400000000 ∧ ds.length ≤ 200000 ∧ (∀ d ∈ ds, FitD D d) := by
  obtain ⟨hs, p', h1, h2, h3⟩ := h
  obtain ⟨a, b, c⟩ := decls_len hs hD h1
  have hp : p' ≤ s.size := by rw [← h2]; exact runTo_ge _ _ _
  exact ⟨by omega, by omega, c⟩
theorem FileIs.one {s : ByteArray} {D : Nat} {ds es : List Dc} (h : FileIs s D ds) (h' : FileIs s D es) : ds = es := by
  obtain ⟨_, p, h1, h2, _⟩ := h
  obtain ⟨_, q, h3, h4, _⟩ := h'
  exact ((dDecls s D).uni ⟨h1, h2⟩ ⟨h3, h4⟩).1
theorem FileIs.no {s : ByteArray} {D : Nat} {ds : List Dc} {code a : Nat} (h : FileIs s D ds) (h' : FileBad s D code a) : False := by
  obtain ⟨hs, p, h1, h2, _⟩ := h
  rcases h' with ⟨_, _, hb⟩ | ⟨hl, _⟩
  · exact (dDecls s D).no ⟨h1, h2⟩ hb
  · omega
theorem FileBad.one {s : ByteArray} {D code a code' a' : Nat} (h : FileBad s D code a) (h' : FileBad s D code' a') : code = code' ∧ a = a' := by
  rcases h with ⟨h1, h2, h3⟩ | ⟨h1, h2, h3⟩ <;> rcases h' with ⟨g1, g2, g3⟩ | ⟨g1, g2, g3⟩
  · exact ⟨by omega, (dDecls s D).one h3 g3⟩
  · omega
  · omega
  · exact ⟨by omega, by omega⟩
theorem FileBad.pos {s : ByteArray} {D code a : Nat} (h : FileBad s D code a) : code ≠ 0 := by
  rcases h with ⟨_, h, _⟩ | ⟨_, h, _⟩ <;> omega

/-- What the program answers, as one. -/
def Read1 (s : ByteArray) (D : Nat) (ds : List Dc) (f : Value) (w : World) : Prop :=
  (FileIs s D ds ∧ f = .nilIface) ∨ (ds = [] ∧ ∃ code a N : Nat, FileBad s D code a ∧ f = .iface 84 (.pointer (some ⟨N, 0, none⟩)) ∧ w.heap[N]? = some (.cells #[.int .i64 (code : Nat), .int .i64 (a : Nat)] 33 (0, 0)))
theorem Answer.all {w w' : World} {s : ByteArray} {D : Nat} {e : Ending} (h : Answer w s D e w') :
    ∃ (ds : List Dc) (A : Option Addr) (c : Nat) (f : Value), e = .returned (.tuple #[.slice A ds.length c, f]) ∧ Read1 s D ds f w' ∧ DsV w' (fun _ => True) D ds A ∧ Below w.heap.size w w' := by
  rcases h with ⟨ds, A, c, h1, rfl, h2, h3⟩ | ⟨code, a, hb, N, rfl, -, hN, h3⟩
  · exact ⟨ds, A, c, _, rfl, .inl ⟨h1, rfl⟩, h2.keep fun b _ _ => ⟨trivial, rfl⟩, h3⟩
  · exact ⟨[], none, 0, _, rfl, .inr ⟨rfl, code, a, N, hb, rfl, hN⟩, fun i hi => absurd hi (by simp), h3⟩
/-- What the document answers, beside it. -/
theorem DAnswer.all {w w' : World} {s : ByteArray} {D : Nat} {e : Ending} (h : DAnswer w s D e w') (hg : HdT w) {ds : List Dc} {f : Value} (hR : Read1 s D ds f w) :
    ∃ (A : Option Addr) (c code a : Nat), e = .returned (.tuple #[.slice A ds.length c, .agg #[.int .i64 (code : Nat), .int .i64 (a : Nat)]]) ∧ DsV w' (fun _ => True) D ds A ∧ Below w.heap.size w w' ∧
      ∀ W, Below w'.heap.size w' W → Calls Tryz.prog 7 #[f, .agg #[.int .i64 (code : Nat), .int .i64 (a : Nat)]] W fun e W' => e = .returned (.bool true) ∧ Below W.heap.size W W' := by
  rcases hR with ⟨hi, rfl⟩ | ⟨rfl, code, a, N, hb, rfl, hN⟩
  · rcases h with ⟨es, A, c, h1, rfl, h2, h3⟩ | ⟨code, a, hb, -⟩
    · obtain rfl := hi.one h1
      exact ⟨A, c, 0, 0, rfl, h2.keep fun b _ _ => ⟨trivial, rfl⟩, h3, fun W _ => faulty_none 0 W⟩
    · exact (hi.no hb).elim
  · rcases h with ⟨es, A, c, h1, -⟩ | ⟨code', a', hb', rfl, h3⟩
    · exact (h1.no hb).elim
    · obtain ⟨rfl, rfl⟩ := hb.one hb'
      have hl : N < w.heap.size := (Array.getElem?_eq_some_iff.1 hN).1
      refine ⟨none, 0, code, a, rfl, fun i hi => absurd hi (by simp), h3, fun W hW => ?_⟩
      have hs := h3.size
      exact faulty_same N code a W ((hg.later h3).later hW) (by rw [hW.block N (by omega), h3.block N hl]; exact hN) hb.pos
theorem Read1.fit {s : ByteArray} {D : Nat} {ds : List Dc} {f : Value} {w : World} (h : Read1 s D ds f w) (hD : 200000 < D) : (ftext D ds).length ≤ 400000000 ∧ ds.length ≤ 200000 ∧ (∀ d ∈ ds, FitD D d) := by
  rcases h with ⟨h, -⟩ | ⟨rfl, -⟩
  · exact h.fit hD
  · exact ⟨by simp [ftext], by simp, fun d hd => absurd hd (by simp)⟩

theorem rangeAt_later {W W' : World} {g o : Nat} {l : List Value} (hb : Below W.heap.size W W') (h : W.rangeAt g o l) : W'.rangeAt g o l := fun j v hv => cell_later hb (h j v hv)
/-- A declaration's row, in every later world. -/
theorem row15k {W : World} {D : Nat} {ds : List Dc} {A : Option Addr} (h : DsV W (fun _ => True) D ds A) (k : Nat) (hk : k < ds.length) :
    ∃ (g : Nat) (l : List Value), A = some ⟨g, 0, none⟩ ∧ g < W.heap.size ∧ l.length = 15 ∧ (Tryz.prog.info? 46).map (·.size) = some l.length ∧ l.toArray.all (·.oneCell') = true ∧
      ∀ W', Below W.heap.size W W' → W'.rangeAt g (k * 15) l ∧ DeclV W' (fun _ => True) D ds[k] (.agg l.toArray) := by
  obtain ⟨g, l, e, hg, hr, hl, hi, ho, hv⟩ := row15 h k hk
  exact ⟨g, l, e, hg, hl, hi, ho, fun W' hb => ⟨rangeAt_later hb hr, hv.keep fun b hb' _ => ⟨trivial, hb.block b hb'⟩⟩⟩
theorem rangeAt_drew {W : World} {g o : Nat} {l : List Value} (h : W.rangeAt g o l) : W.drew.rangeAt g o l := fun j v hv => h j v hv

/-- The load of a whole row, where the operation is guarded. -/
theorem wpList_load_held {P : Program} {ops : Array Oper} {rest : List Oper} {op : Oper} {a : Act} {w : World} {Q : Exit → Act → World → Prop} (hw : Region.wanted op (yielded ops a.tmps) = true) (ty : TypeId) (x : Operand) (ho : op.op = .load ty x)
    (b o : Nat) (hx : a.eval x = .pointer (some ⟨b, o, none⟩)) (cs : List Value) (d : TypeDesc) (hc : w.rangeAt b o cs)
    (hu : P.underlying ty = some d) (hd : d.isRow = true) (hi : (P.info? ty).map (·.size) = some cs.length)
    (h : wpList P ops Q rest (a.put op.dst (.agg cs.toArray)) w) : wpList P ops Q (op :: rest) a w :=
  wpList_step fun _ hK => by
    rw [if_pos hw]
    exact wp_load_mid ty x ho b o hx cs d hc hu hd hi (hK _ _ h)

/-- The load of a declaration, as it stands. -/
def ld46 (v : Value) : Sem Value := Instr.loadAt 46 v
theorem ld46_eq (v : Value) : Instr.loadAt 46 v = ld46 v := rfl
attribute [local go_sem ↓] ld46_eq

set_option maxRecDepth 100000 in
set_option maxHeartbeats 16000000 in
theorem filed_calls (s : ByteArray) (D wb wo wc : Nat) (w : World) (hm : s.size ≤ maxLen) (hD : 200000 < D) (ht : TabsP w) (hw : WordsAt w wb wo wc) (hg : HdT w) :
    Calls Tryz.prog 4 #[.string s] w fun e w' => e = .returned (.bool true) ∧ Below w.heap.size w w' := by
  have HT := hide ht
  have HW := hide hw
  have hwl := hw.lt
  have HWl : Hid (∀ W, Below w.heap.size w W → WordsAt W wb wo wc) := fun W hb => HW.out.of_blocks (hb.block 1 hwl.1) (hb.block wb hwl.2)
  have HG := hide hg
  have HD := hide hD
  have K1 := hide (fparse_calls s D w hm hD ht.t)
  clear ht hw hg hD hm hwl
  go_enter Tryz.func4, Tryz.ntmps4
  go_wp2_with (go_at_call 5; refine K1.out.mono ?_)
  intro e w1 h9
  obtain ⟨ds, A1, c1, f, rfl, hR, hV1, hb1⟩ := h9.all
  have HB1 := hide hb1
  have HR := hide hR
  have HV1 := hide hV1
  have K2 := hide (parseFile_calls s D wb wo wc w1 HD.out (HWl.out _ hb1))
  clear hR hV1 hb1 h9 K1
  obtain ⟨n, hn⟩ : ∃ n : Nat, n = ds.length := ⟨_, rfl⟩
  rw [← hn]
  have HN := hide hn
  clear hn
  go_wp2_with (go_at_call 6; refine K2.out.mono ?_)
  intro e w2 h9
  obtain ⟨A2, c2, code, a, rfl, hV2, hb2, hk7⟩ := h9.all (HG.out.later HB1.out) HR.out
  rw [← HN.out]
  obtain ⟨HF1, HF2, HF3⟩ : Hid ((ftext D ds).length ≤ 400000000) ∧ Hid (ds.length ≤ 200000) ∧ Hid (∀ d ∈ ds, FitD D d) := HR.out.fit HD.out
  have HB2 : Hid (Below w.heap.size w w2) := HB1.out.trans (hb2.mono HB1.out.size)
  have HV1' : Hid (DsV w2 (fun _ => True) D ds A1) := HV1.out.keep fun b hb _ => ⟨trivial, hb2.block b hb⟩
  have HV2 := hide hV2
  have hn2 : n ≤ 200000 := by rw [HN.out]; exact HF2.out
  have H7 := hide hk7
  clear hV2 hb2 hk7 h9 K2 HV1 HB1 HR
  have hb3 : Below w2.heap.size w2 (w2.alloc (.cells #[.int .i64 (code : Nat), .int .i64 (a : Nat)] 33)) := (Below.refl _ _).alloc (Nat.le_refl _) _
  have K7 := hide (H7.out _ hb3)
  have HB3 := hide hb3
  clear H7 hb3
  go_wp2_with (go_at_call 7; refine K7.out.mono ?_)
  intro e w3 h9
  first | (subst h9; intro hb4) | (obtain ⟨rfl, hb4⟩ := h9)
  have HB4 : Hid (Below w2.heap.size w2 w3) := HB3.out.trans (hb4.mono HB3.out.size)
  have HB5 : Hid (Below w.heap.size w w3) := HB2.out.trans (HB4.out.mono HB2.out.size)
  have HV13 : Hid (DsV w3 (fun _ => True) D ds A1) := HV1'.out.keep fun b hb _ => ⟨trivial, HB4.out.block b hb⟩
  have HV23 : Hid (DsV w3 (fun _ => True) D ds A2) := HV2.out.keep fun b hb _ => ⟨trivial, HB4.out.block b hb⟩
  obtain ⟨X, hX⟩ : ∃ X : ByteArray, X = ⟨(ftext D ds).toArray⟩ := ⟨_, rfl⟩
  have K8 : Hid (Calls Tryz.prog 8 #[.slice A2 n c2] w3 fun e w' => e = .returned (.string X) ∧ Below w3.heap.size w3 w') := by
    rw [HN.out, hX]
    exact printAll_calls D ds A2 c2 w3 (HT.out.later HB5.out) HF3.out HV23.out HF1.out HF2.out
  have K9 : Hid (∀ W, Below w3.heap.size w3 W → Calls Tryz.prog 9 #[.slice A2 n c2] W fun e w' => e = .returned (.string X) ∧ Below W.heap.size W w') := fun W hW => by
    rw [HN.out, hX]
    exact rprintFile_calls wb wo wc D ds A2 c2 W (HWl.out _ (HB5.out.trans (hW.mono HB5.out.size))) HF3.out (HV23.out.keep fun b hb _ => ⟨trivial, hW.block b hb⟩) HF1.out HF2.out
  clear hb4 K7 HB3 HB4 HB2 HV1' HV2 hX
  go_wp2_with (go_at_call 8; refine K8.out.mono ?_)
  intro e w4 h9
  first | (subst h9; intro hb4) | (obtain ⟨rfl, hb4⟩ := h9)
  have HB6 := hide hb4
  have K9' := hide (K9.out _ hb4)
  clear hb4 K8 K9
  go_wp2_with (go_at_call 9; refine K9'.out.mono ?_)
  intro e w5 h9
  first | (subst h9; intro hb5) | (obtain ⟨rfl, hb5⟩ := h9)
  have HB7 : Hid (Below w3.heap.size w3 w5) := HB6.out.trans (hb5.mono HB6.out.size)
  clear hb5 K9' HB6
  have hsame : (X.toList == X.toList) = true := sameStr_pos rfl
  go_wp2_with fail
  go_loopg [9] n (fun g i wr => ∃ k : Nat, k + g = n ∧ i = .int .i64 k ∧ Hid (Below w3.heap.size w3 wr))
  case atStart => exact ⟨0, by omega, rfl, HB7.out⟩
  case round =>
    clear HB7 hsame
    obtain ⟨k, hkg, rfl, HR⟩ := hrel
    by_cases hk : k < n
    · have hkd : k < ds.length := by rw [← HN.out]; exact hk
      obtain ⟨g1, l1, rfl, hg1, hl1, hs1, ho1, hr1⟩ := row15k HV13.out k hkd
      obtain ⟨g2, l2, rfl, hg2, hl2, hs2, ho2, hr2⟩ := row15k HV23.out k hkd
      have HS1 := hide hs1
      have HS2 := hide hs2
      have HR1 := hide hr1
      have HR2 := hide hr2
      have q : decide ((k : Int) < (n : Int)) = true := by simp; omega
      have HFk : Hid (FitD D ds[k]) := HF3.out _ (List.getElem_mem hkd)
      obtain ⟨d, hd⟩ : ∃ d, d = ds[k] := ⟨_, rfl⟩
      rw [← hd] at HR1 HR2 HFk
      obtain ⟨Y, hY⟩ : ∃ Y : ByteArray, Y = ⟨(dtext D d).toArray⟩ := ⟨_, rfl⟩
      have HT3 : Hid (∀ W, Below w3.heap.size w3 W → Below w.heap.size w W) := fun W hW => HB5.out.trans (hW.mono HB5.out.size)
      have K10 : Hid (Calls Tryz.prog 10 #[.agg l2.toArray] wr fun e w' => e = .returned (.string Y) ∧ Below wr.heap.size wr w') := by
        rw [hY]
        exact print_calls D d (.agg l2.toArray) wr (HT.out.later (HT3.out _ HR.out)) HFk.out (HR2.out _ HR.out).2
      have K12 : Hid (∀ W, Below w3.heap.size w3 W → Calls Tryz.prog 12 #[.agg l2.toArray] W fun e w' => e = .returned (.string Y) ∧ Below W.heap.size W w') := fun W hW => by
        rw [hY]
        exact rprintDecl_calls wb wo wc D d (.agg l2.toArray) W (HWl.out _ (HT3.out _ hW)) HFk.out (HR2.out _ hW).2
      have HRg := hide (HR2.out _ HR.out).1
      have hgl := hg2
      have hz := HR.out.size
      clear hr1 hr2 hs1 hs2 hd hY ho1 ho2
      go_wp2_with (first | (refine wpList_load_mid rfl 46 _ rfl g2 (k * 15) rfl l2 _ HRg.out Tryz.underlying46 rfl HS2.out ?_) | (go_at_call 10; refine K10.out.mono ?_))
      intro e w6 h9
      first | (subst h9; intro hb6) | (obtain ⟨rfl, hb6⟩ := h9)
      have HB8 : Hid (Below w3.heap.size w3 w6) := HR.out.trans (hb6.mono HR.out.size)
      have K11 : Hid (∀ W, Below w3.heap.size w3 W → Calls Tryz.prog 11 #[.agg l1.toArray, .agg l2.toArray] W fun e w' => e = .returned (.bool true) ∧ Hid (Below w3.heap.size w3 w')) := fun W hW =>
        (sameDecl_calls D d (.agg l1.toArray) (.agg l2.toArray) W (by have := HD.out; omega) HFk.out (HR1.out _ hW).2 (HR2.out _ hW).2).mono fun e w' h => ⟨h.1, hW.trans (h.2.mono hW.size)⟩
      have L1 : ∀ W, Below w3.heap.size w3 W → (ld46 (.pointer (some ⟨g1, k * 15, none⟩))).run Tryz.prog W = .ok (.agg l1.toArray) W := fun W hW => run_loadAt_mid W g1 (k * 15) 46 l1 _ (HR1.out _ hW).1 Tryz.underlying46 rfl HS1.out
      have L2 : ∀ W, Below w3.heap.size w3 W → (ld46 (.pointer (some ⟨g2, k * 15, none⟩))).run Tryz.prog W = .ok (.agg l2.toArray) W := fun W hW => run_loadAt_mid W g2 (k * 15) 46 l2 _ (HR2.out _ hW).1 Tryz.underlying46 rfl HS2.out
      clear hb6 K10 HRg
      go_wp2_with fail
      have hb8 := HB8.out
      go_region_held3 (fun w' => Below w3.heap.size w3 w') (first | assumption | (refine Below.drew ?_; assumption)) (first
        | (go_at_call 11; refine (K11.out _ ?_).mono ?_; (first | assumption | (refine Below.drew ?_; assumption)); rintro e wy ⟨rfl, HY⟩; have hy := HY.out))
      have K12' := hide (K12.out _ hy)
      have hsame : (Y.toList == Y.toList) = true := sameStr_pos rfl
      have HY2 := hide hy
      clear K11 K12 HB8 hb8 HY
      go_wp2_with (go_at_call 12; refine K12'.out.mono ?_)
      intro e w7 h9
      first | (subst h9; intro hb7) | (obtain ⟨rfl, hb7⟩ := h9)
      have HB9 : Hid (Below w3.heap.size w3 w7) := HY2.out.trans (hb7.mono HY2.out.size)
      clear hb7 K12' HY2 hy L1 L2
      go_wp2_with fail
      go_roundg (n - (k + 1))
      case measure => omega
      case rel => exact ⟨k + 1, by omega, by go_num, HB9.out⟩
    · have hke : n = k := by omega
      subst hke
      have q : decide ((n : Int) < (n : Int)) = false := by simp
      go_wp2_with fail
      go_ret
      exact ⟨rfl, HB5.out.trans (HR.out.mono HB5.out.size)⟩

end Go.Proofs.YtjlibnijecdgcaaGreatDoor

/- The walk of Files: step by step. -/
namespace Go.Proofs.YtjlibnijecdgcaaGreatDoor
open Go.RowKit

/-- A script as it came in: each step's first text. -/
def IsOps (w : World) (a : Option Addr) (len : Nat) : Prop := len ≤ maxLen ∧ ∀ i, i < len → ∃ (b off : Nat) (S : ByteArray), a = some ⟨b, off, none⟩ ∧ S.size ≤ maxLen ∧ w.cell? ⟨b, off + i * 6 + 1, none⟩ = some (.string S)

set_option maxRecDepth 100000 in
set_option maxHeartbeats 16000000 in
theorem files_walk (ad : Option Addr) (len cap wb wo wc : Nat) (w : World) (h : IsOps w ad len) (ht : TabsP w) (hw : WordsAt w wb wo wc) (hg : HdT w) :
    Calls Tryz.prog 3 #[.slice ad len cap] w fun e w' => e = .returned (.bool true) ∧ Below w.heap.size w w' := by
  obtain ⟨hm, hc⟩ := h
  unfold maxLen at hm
  have HC := hide hc
  have hwl := hw.lt
  have HK : Hid (∀ W S, Below w.heap.size w W → S.size ≤ maxLen → Calls Tryz.prog 4 #[.string S] W fun e w' => e = .returned (.bool true) ∧ Below W.heap.size W w') := fun W S hb hS =>
    filed_calls S 200001 wb wo wc W hS (by decide) (ht.later hb) (hw.of_blocks (hb.block 1 hwl.1) (hb.block wb hwl.2)) (hg.later hb)
  clear hc ht hw hg hwl
  go_enter Tryz.func3, Tryz.ntmps3
  go_wp2_with fail
  go_loopg [3] (len) (fun g i wr => ∃ k : Nat, k + g = len ∧ i = .int .i64 k ∧ Below w.heap.size w wr)
  case atStart => exact ⟨0, by omega, rfl, Below.refl _ _⟩
  case round =>
    obtain ⟨k, hkg, rfl, hbel⟩ := hrel
    have HB := hide hbel
    clear hbel
    by_cases hlt : k < len
    · by_cases hmax : (k : Int) < 1152921504606846976
      · obtain ⟨bk, off, S, rfl, hS, c1⟩ := HC.out k hlt
        have d1 := cell_later HB.out c1
        have hbl : bk < wr.heap.size := World.block_lt_of_cell? _ _ d1
        have K1 := hide (HK.out wr S HB.out hS)
        clear c1
        go_wp2_with (go_at_call 4; refine K1.out.mono ?_)
        intro e w1 h9
        first | (subst h9; intro hb1) | (obtain ⟨rfl, hb1⟩ := h9)
        have HB1 := hide (HB.out.trans (hb1.mono HB.out.size))
        clear hb1 K1
        go_wp2_with fail
        go_roundg (len - (k + 1))
        case measure => omega
        case rel => exact ⟨k + 1, by omega, by go_num, HB1.out⟩
      · have q : decide ((k : Int) < 1152921504606846976) = false := by simp; omega
        go_wp2_with fail
        go_ret
        exact ⟨rfl, HB.out⟩
    · go_wp2_with fail
      go_ret
      exact ⟨rfl, HB.out⟩

end Go.Proofs.YtjlibnijecdgcaaGreatDoor
