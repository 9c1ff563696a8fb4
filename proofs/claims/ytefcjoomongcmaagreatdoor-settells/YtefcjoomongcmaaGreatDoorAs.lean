/- Closed facts on the model of internal/reflectlite at this program, for errors.As. -/
import Derived.Test.YtefcjoomongcmaaGreatDoorSRg
import Derived.LaidEql
import Derived.Stop.Asserts
import Derived.RowKitTokens
namespace Go.Proofs.YtefcjoomongcmaaGreatDoor
open Go.RowKit Go.Extern.Stop Go.Stop Go.Extern

theorem unwrap_any (g : Addr) (e : Int) (w : World) (hg : w.cell? g = some (.int .i64 e)) :
    Calls Tryz.prog 186 #[.pointer (some g)] w fun ev w' => ev = .returned (.iface 31 (.int .i64 e)) ∧ w' = w := by
  go_enter Tryz.func186, Tryz.ntmps186
  go_wp2
  go_ret
  exact ⟨rfl, rfl⟩

theorem valueOf70 (t : Addr) (w : World) : (ReflectliteValue.unpack (.iface 167 (.pointer (some t)))).run Tryz.prog w
    = .ok (.agg #[.pointer (some ⟨12, 167, none⟩), .pointer (some ⟨w.heap.size, 0, none⟩), .int .u64 150]) (w.alloc (.cells #[.pointer (some t)] 167)) := by kernel_rfl
theorem type70 (a : Addr) (w : World) : (ReflectliteValue.methodAny (ReflectliteValue.valueError "reflectlite.Value.Type" 0) (fun t _ _ _ => ReflectliteType.toType t) #[.agg #[.pointer (some ⟨12, 167, none⟩), .pointer (some a), .int .u64 150]]).run Tryz.prog w
    = .ok (.iface 208 (.agg #[.pointer (some ⟨12, 167, none⟩)])) w := by kernel_rfl
theorem kind70 (w : World) : ((ReflectliteType.abiMethod fun t => Functor.map (fun a : Nat => Value.int IntKind.u8 (a : Int)) (Rtype.kind t)) #[.pointer (some ⟨12, 167, none⟩)]).run Tryz.prog w = .ok (.int .u8 22) w := by kernel_rfl
theorem kind27 (w : World) : ((ReflectliteType.abiMethod fun t => Functor.map (fun a : Nat => Value.int IntKind.u8 (a : Int)) (Rtype.kind t)) #[.pointer (some ⟨12, 31, none⟩)]).run Tryz.prog w = .ok (.int .u8 2) w := by kernel_rfl
/-- A reckoning of which the first step is known. -/
theorem one_step {α : Type} {P : Program} {W : World} {R : Result Value} (z : Sem Value) (m : Sem α) (F : α → Sem Value) (h : z = (m >>= fun p => F p)) (a : α)
    (hm : m.run P W = .ok a W) (hF : (F a).run P W = R) : z.run P W = R := by
  subst h
  simp only [Sem.run_bind, hm, Result.andThen, hF]
/-- .. of which the first two are known. -/
theorem two_steps {α β : Type} {P : Program} {W : World} {R : Result Value} (z : Sem Value) (m : Sem α) (n : Sem β) (F : α → β → Sem Value) (h : z = (m >>= fun p => n >>= fun q => F p q)) (a : α) (b : β)
    (hm : m.run P W = .ok a W) (hn : n.run P W = .ok b W) (hF : (F a b).run P W = R) : z.run P W = R := by
  subst h
  simp only [Sem.run_bind, hm, hn, Result.andThen, hF]
theorem parts70 (a : Addr) (w : World) : (ReflectliteValue.parts (.agg #[.pointer (some ⟨12, 167, none⟩), .pointer (some a), .int .u64 150])).run Tryz.prog w = .ok (some (167, a, 150)) w := by kernel_rfl
theorem isNil70 (a p : Addr) (W : World) (ha : W.cell? a = some (.pointer (some p))) :
    (ReflectliteValue.method (ReflectliteValue.valueError "reflectlite.Value.IsNil" 0) ReflectliteValue.isNil #[.agg #[.pointer (some ⟨12, 167, none⟩), .pointer (some a), .int .u64 150]]).run Tryz.prog W = .ok (.bool false) W := by
  refine one_step _ (ReflectliteValue.parts _) _ rfl _ (parts70 a W) ?_
  simp [ReflectliteValue.isNil, loadVar, isAgg, underlying, Tryz.underlying167, ha, Result.andThen]
theorem elem70 (w : World) : (ReflectliteType.method ReflectliteType.elem #[.agg #[.pointer (some ⟨12, 167, none⟩)]]).run Tryz.prog w = .ok (.iface 208 (.agg #[.pointer (some ⟨12, 31, none⟩)])) w := by kernel_rfl
theorem implements27 (w : World) : (ReflectliteType.relation "Implements" ReflectliteType.implements_ #[.agg #[.pointer (some ⟨12, 31, none⟩)], .iface 208 (.agg #[.pointer (some ⟨12, 35, none⟩)])]).run Tryz.prog w = .ok (.bool true) w := by kernel_rfl
theorem typeOf52 (v : Value) (w : World) : (ReflectliteType.typeOf #[.iface 127 v]).run Tryz.prog w = .ok (.iface 208 (.agg #[.pointer (some ⟨12, 127, none⟩)])) w := by kernel_rfl
theorem typeOf27 (v : Value) (w : World) : (ReflectliteType.typeOf #[.iface 31 v]).run Tryz.prog w = .ok (.iface 208 (.agg #[.pointer (some ⟨12, 31, none⟩)])) w := by kernel_rfl
theorem assignable52 (w : World) : (ReflectliteType.relation "AssignableTo" ReflectliteType.assignableTo #[.agg #[.pointer (some ⟨12, 127, none⟩)], .iface 208 (.agg #[.pointer (some ⟨12, 31, none⟩)])]).run Tryz.prog w = .ok (.bool false) w := by kernel_rfl
theorem assignable27 (w : World) : (ReflectliteType.relation "AssignableTo" ReflectliteType.assignableTo #[.agg #[.pointer (some ⟨12, 31, none⟩)], .iface 208 (.agg #[.pointer (some ⟨12, 31, none⟩)])]).run Tryz.prog w = .ok (.bool true) w := by kernel_rfl
theorem valueOf27 (e : Int) (w : World) : (ReflectliteValue.unpack (.iface 31 (.int .i64 e))).run Tryz.prog w
    = .ok (.agg #[.pointer (some ⟨12, 31, none⟩), .pointer (some ⟨w.heap.size, 0, none⟩), .int .u64 130]) (w.alloc (.cells #[.int .i64 e] 31)) := by kernel_rfl
theorem elemOf70 (w : World) : (Rtype.elem? 167).run Tryz.prog w = .ok (some 31) w := by kernel_rfl
theorem mk27 (p : Addr) (w : World) : (ReflectliteValue.mk 31 p ReflectliteValue.flagAddr).run Tryz.prog w = .ok (.agg #[.pointer (some ⟨12, 31, none⟩), .pointer (some p), .int .u64 386]) w := by kernel_rfl
theorem elemV70 (a p : Addr) (W : World) (ha : W.cell? a = some (.pointer (some p))) :
    (ReflectliteValue.method (ReflectliteValue.valueError "reflectlite.Value.Elem" 0) ReflectliteValue.elem #[.agg #[.pointer (some ⟨12, 167, none⟩), .pointer (some a), .int .u64 150]]).run Tryz.prog W
      = .ok (.agg #[.pointer (some ⟨12, 31, none⟩), .pointer (some p), .int .u64 386]) W := by
  refine one_step _ (ReflectliteValue.parts _) _ rfl _ (parts70 a W) ?_
  simp [ReflectliteValue.elem, loadVar, isAgg, underlying, Tryz.underlying167, ha, Result.andThen, elemOf70, mk27]
theorem parts27a (a : Addr) (w : World) : (ReflectliteValue.parts (.agg #[.pointer (some ⟨12, 31, none⟩), .pointer (some a), .int .u64 386])).run Tryz.prog w = .ok (some (31, a, 386)) w := by kernel_rfl
theorem parts27 (a : Addr) (w : World) : (ReflectliteValue.parts (.agg #[.pointer (some ⟨12, 31, none⟩), .pointer (some a), .int .u64 130])).run Tryz.prog w = .ok (some (31, a, 130)) w := by kernel_rfl
theorem direct27 (w : World) : (Rtype.directlyAssignable 31 31).run Tryz.prog w = .ok true w := by kernel_rfl
theorem set27 (ta b : Addr) (e : Int) (old : Value) (W : World) (hb : W.cell? b = some (.int .i64 e)) (ht : W.cell? ta = some old) (hf : W.frozen? ta = false) :
    (ReflectliteValue.set #[.agg #[.pointer (some ⟨12, 31, none⟩), .pointer (some ta), .int .u64 386], .agg #[.pointer (some ⟨12, 31, none⟩), .pointer (some b), .int .u64 130]]).run Tryz.prog W
      = .ok (.tuple #[]) (W.setCell ta (.int .i64 e)) := by
  refine two_steps _ (ReflectliteValue.parts _) (ReflectliteValue.parts _) _ rfl _ _ (parts27a ta W) (parts27 b W) ?_
  simp [ReflectliteValue.flagAddr, loadVar, isAgg, underlying, Tryz.underlying31, hb, Result.andThen, direct27, storeVar, Value.cells, storeCells, Addr.add]
  rw [run_store Tryz.prog W ta _ _ (by rfl)]
  simp [ht, hf]

theorem lt_cell {w : World} {a : Addr} {v : Value} (h : w.cell? a = some v) : a.block < w.heap.size := by
  rcases Nat.lt_or_ge a.block w.heap.size with h1 | h1
  · exact h1
  · simp [World.cell?, Array.getElem?_eq_none h1] at h

theorem methodA (h : Value) (w : World) : (Go.method 349 208 (.agg #[h]) "AssignableTo").run Tryz.prog w = .ok (192, .agg #[h]) w := by kernel_rfl
theorem methodK (h : Value) (w : World) : (Go.method 349 208 (.agg #[h]) "Kind").run Tryz.prog w = .ok (178, h) w := by kernel_rfl
theorem methodE (h : Value) (w : World) : (Go.method 349 208 (.agg #[h]) "Elem").run Tryz.prog w = .ok (194, .agg #[h]) w := by kernel_rfl
theorem methodI (h : Value) (w : World) : (Go.method 349 208 (.agg #[h]) "Implements").run Tryz.prog w = .ok (195, .agg #[h]) w := by kernel_rfl
theorem methodU (a : Addr) (w : World) : (Go.method 349 127 (.pointer (some a)) "Unwrap").run Tryz.prog w = .ok (186, .pointer (some a)) w := by kernel_rfl
theorem lacks89 (v : Value) (w : World) : (Instr.typeAssert (.iface 127 v) 35 213 true).run Tryz.prog w = .ok (.tuple #[.nilIface, .bool false]) w :=
  run_typeAssert_lacksB Tryz.underlying213 (by kernel_rfl) (by kernel_rfl) v 35 w
theorem has66 (v : Value) (w : World) : (Instr.typeAssert (.iface 127 v) 35 130 true).run Tryz.prog w = .ok (.tuple #[.iface 127 v, .bool true]) w :=
  run_typeAssert_hasB Tryz.underlying130 (by kernel_rfl) v 35 w

end Go.Proofs.YtefcjoomongcmaaGreatDoor
