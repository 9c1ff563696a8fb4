/- Closed facts on the model of internal/reflectlite at this program, for errors.As. -/
import Derived.Test.YtjbdlihlcoldlaaGreatDoorG16
import Derived.LaidEql
import Derived.Stop.Asserts
import Derived.RowKitTokens
namespace Go.Proofs.YtjbdlihlcoldlaaGreatDoor
open Go.RowKit Go.Extern.Stop Go.Stop Go.Extern

theorem unwrap_any (g : Addr) (e : Int) (w : World) (hg : w.cell? g = some (.int .i64 e)) :
    Calls Tryz.prog 300 #[.pointer (some g)] w fun ev w' => ev = .returned (.iface 89 (.int .i64 e)) ∧ w' = w := by
  go_enter Tryz.func300, Tryz.ntmps300
  go_wp2
  go_ret
  exact ⟨rfl, rfl⟩

theorem valueOf70 (t : Addr) (w : World) : (ReflectliteValue.unpack (.iface 140 (.pointer (some t)))).run Tryz.prog w
    = .ok (.agg #[.pointer (some ⟨8, 140, none⟩), .pointer (some ⟨w.heap.size, 0, none⟩), .int .u64 150]) (w.alloc (.cells #[.pointer (some t)] 140)) := by kernel_rfl
theorem type70 (a : Addr) (w : World) : (ReflectliteValue.methodAny (ReflectliteValue.valueError "reflectlite.Value.Type" 0) (fun t _ _ _ => ReflectliteType.toType t) #[.agg #[.pointer (some ⟨8, 140, none⟩), .pointer (some a), .int .u64 150]]).run Tryz.prog w
    = .ok (.iface 255 (.agg #[.pointer (some ⟨8, 140, none⟩)])) w := by kernel_rfl
theorem kind70 (w : World) : ((ReflectliteType.abiMethod fun t => Functor.map (fun a : Nat => Value.int IntKind.u8 (a : Int)) (Rtype.kind t)) #[.pointer (some ⟨8, 140, none⟩)]).run Tryz.prog w = .ok (.int .u8 22) w := by kernel_rfl
theorem kind27 (w : World) : ((ReflectliteType.abiMethod fun t => Functor.map (fun a : Nat => Value.int IntKind.u8 (a : Int)) (Rtype.kind t)) #[.pointer (some ⟨8, 89, none⟩)]).run Tryz.prog w = .ok (.int .u8 2) w := by kernel_rfl
/-- A reckoning of which the first step is known. -/
theorem one_step {α : Type} {P : Program} {W : World} {R : Result Value} (z : Sem Value) (m : Sem α) (F : α → Sem Value) (h : z = (m >>= fun p => F p)) (a : α)
    (hm : m.run P W = .ok a W) (hF : (F a).run P W = R) : z.run P W = R := by
  subst h
  simp only [Sem.run_bind, hm, Result.andThen, hF]
/-- .. of which the first two are known. -/
theorem two_steps {α β : Type} {P : Program} {W : World} {R : Result Value} (z : Sem Value) (m : Sem α) (n : Sem β) (F : α → β → Sem Value) (h : z = (m >>= fun p => n >>= fun q => F p q)) (a : α) (b : β)
    (hm : m.run P W = .ok a W) (hn : n.run P W = .ok b W) (hF : (F a b).run P W = R) : z.run P W = R := by
  subst h
  simp only [Sem.run_bind, hm, hn, Result.andThen, hF]
theorem parts70 (a : Addr) (w : World) : (ReflectliteValue.parts (.agg #[.pointer (some ⟨8, 140, none⟩), .pointer (some a), .int .u64 150])).run Tryz.prog w = .ok (some (140, a, 150)) w := by kernel_rfl
theorem isNil70 (a p : Addr) (W : World) (ha : W.cell? a = some (.pointer (some p))) :
    (ReflectliteValue.method (ReflectliteValue.valueError "reflectlite.Value.IsNil" 0) ReflectliteValue.isNil #[.agg #[.pointer (some ⟨8, 140, none⟩), .pointer (some a), .int .u64 150]]).run Tryz.prog W = .ok (.bool false) W := by
  refine one_step _ (ReflectliteValue.parts _) _ rfl _ (parts70 a W) ?_
  simp [ReflectliteValue.isNil, loadVar, isAgg, underlying, Tryz.underlying140, ha, Result.andThen]
theorem elem70 (w : World) : (ReflectliteType.method ReflectliteType.elem #[.agg #[.pointer (some ⟨8, 140, none⟩)]]).run Tryz.prog w = .ok (.iface 255 (.agg #[.pointer (some ⟨8, 89, none⟩)])) w := by kernel_rfl
theorem implements27 (w : World) : (ReflectliteType.relation "Implements" ReflectliteType.implements_ #[.agg #[.pointer (some ⟨8, 89, none⟩)], .iface 255 (.agg #[.pointer (some ⟨8, 31, none⟩)])]).run Tryz.prog w = .ok (.bool true) w := by kernel_rfl
theorem typeOf52 (v : Value) (w : World) : (ReflectliteType.typeOf #[.iface 96 v]).run Tryz.prog w = .ok (.iface 255 (.agg #[.pointer (some ⟨8, 96, none⟩)])) w := by kernel_rfl
theorem typeOf27 (v : Value) (w : World) : (ReflectliteType.typeOf #[.iface 89 v]).run Tryz.prog w = .ok (.iface 255 (.agg #[.pointer (some ⟨8, 89, none⟩)])) w := by kernel_rfl
theorem assignable52 (w : World) : (ReflectliteType.relation "AssignableTo" ReflectliteType.assignableTo #[.agg #[.pointer (some ⟨8, 96, none⟩)], .iface 255 (.agg #[.pointer (some ⟨8, 89, none⟩)])]).run Tryz.prog w = .ok (.bool false) w := by kernel_rfl
theorem assignable27 (w : World) : (ReflectliteType.relation "AssignableTo" ReflectliteType.assignableTo #[.agg #[.pointer (some ⟨8, 89, none⟩)], .iface 255 (.agg #[.pointer (some ⟨8, 89, none⟩)])]).run Tryz.prog w = .ok (.bool true) w := by kernel_rfl
theorem valueOf27 (e : Int) (w : World) : (ReflectliteValue.unpack (.iface 89 (.int .i64 e))).run Tryz.prog w
    = .ok (.agg #[.pointer (some ⟨8, 89, none⟩), .pointer (some ⟨w.heap.size, 0, none⟩), .int .u64 130]) (w.alloc (.cells #[.int .i64 e] 89)) := by kernel_rfl
theorem elemOf70 (w : World) : (Rtype.elem? 140).run Tryz.prog w = .ok (some 89) w := by kernel_rfl
theorem mk27 (p : Addr) (w : World) : (ReflectliteValue.mk 89 p ReflectliteValue.flagAddr).run Tryz.prog w = .ok (.agg #[.pointer (some ⟨8, 89, none⟩), .pointer (some p), .int .u64 386]) w := by kernel_rfl
theorem elemV70 (a p : Addr) (W : World) (ha : W.cell? a = some (.pointer (some p))) :
    (ReflectliteValue.method (ReflectliteValue.valueError "reflectlite.Value.Elem" 0) ReflectliteValue.elem #[.agg #[.pointer (some ⟨8, 140, none⟩), .pointer (some a), .int .u64 150]]).run Tryz.prog W
      = .ok (.agg #[.pointer (some ⟨8, 89, none⟩), .pointer (some p), .int .u64 386]) W := by
  refine one_step _ (ReflectliteValue.parts _) _ rfl _ (parts70 a W) ?_
  simp [ReflectliteValue.elem, loadVar, isAgg, underlying, Tryz.underlying140, ha, Result.andThen, elemOf70, mk27]
theorem parts27a (a : Addr) (w : World) : (ReflectliteValue.parts (.agg #[.pointer (some ⟨8, 89, none⟩), .pointer (some a), .int .u64 386])).run Tryz.prog w = .ok (some (89, a, 386)) w := by kernel_rfl
theorem parts27 (a : Addr) (w : World) : (ReflectliteValue.parts (.agg #[.pointer (some ⟨8, 89, none⟩), .pointer (some a), .int .u64 130])).run Tryz.prog w = .ok (some (89, a, 130)) w := by kernel_rfl
theorem direct27 (w : World) : (Rtype.directlyAssignable 89 89).run Tryz.prog w = .ok true w := by kernel_rfl
theorem set27 (ta b : Addr) (e : Int) (old : Value) (W : World) (hb : W.cell? b = some (.int .i64 e)) (ht : W.cell? ta = some old) (hf : W.frozen? ta = false) :
    (ReflectliteValue.set #[.agg #[.pointer (some ⟨8, 89, none⟩), .pointer (some ta), .int .u64 386], .agg #[.pointer (some ⟨8, 89, none⟩), .pointer (some b), .int .u64 130]]).run Tryz.prog W
      = .ok (.tuple #[]) (W.setCell ta (.int .i64 e)) := by
  refine two_steps _ (ReflectliteValue.parts _) (ReflectliteValue.parts _) _ rfl _ _ (parts27a ta W) (parts27 b W) ?_
  simp [ReflectliteValue.flagAddr, loadVar, isAgg, underlying, Tryz.underlying89, hb, Result.andThen, direct27, storeVar, Value.cells, storeCells, Addr.add]
  rw [run_store Tryz.prog W ta _ _ (by rfl)]
  simp [ht, hf]

theorem lt_cell {w : World} {a : Addr} {v : Value} (h : w.cell? a = some v) : a.block < w.heap.size := by
  rcases Nat.lt_or_ge a.block w.heap.size with h1 | h1
  · exact h1
  · simp [World.cell?, Array.getElem?_eq_none h1] at h

theorem methodA (h : Value) (w : World) : (Go.method 486 255 (.agg #[h]) "AssignableTo").run Tryz.prog w = .ok (305, .agg #[h]) w := by kernel_rfl
theorem methodK (h : Value) (w : World) : (Go.method 486 255 (.agg #[h]) "Kind").run Tryz.prog w = .ok (295, h) w := by kernel_rfl
theorem methodE (h : Value) (w : World) : (Go.method 486 255 (.agg #[h]) "Elem").run Tryz.prog w = .ok (307, .agg #[h]) w := by kernel_rfl
theorem methodI (h : Value) (w : World) : (Go.method 486 255 (.agg #[h]) "Implements").run Tryz.prog w = .ok (308, .agg #[h]) w := by kernel_rfl
theorem methodU (a : Addr) (w : World) : (Go.method 486 96 (.pointer (some a)) "Unwrap").run Tryz.prog w = .ok (300, .pointer (some a)) w := by kernel_rfl
theorem lacks89 (v : Value) (w : World) : (Instr.typeAssert (.iface 96 v) 31 260 true).run Tryz.prog w = .ok (.tuple #[.nilIface, .bool false]) w :=
  run_typeAssert_lacksB Tryz.underlying260 (by kernel_rfl) (by kernel_rfl) v 31 w
theorem has66 (v : Value) (w : World) : (Instr.typeAssert (.iface 96 v) 31 263 true).run Tryz.prog w = .ok (.tuple #[.iface 96 v, .bool true]) w :=
  run_typeAssert_hasB Tryz.underlying263 (by kernel_rfl) v 31 w

end Go.Proofs.YtjbdlihlcoldlaaGreatDoor

namespace Go.Proofs.YtjbdlihlcoldlaaGreatDoor
open Go.RowKit Go.Extern.Stop Go.Stop Go.Extern

set_option maxHeartbeats 4000000 in
set_option maxRecDepth 100000 in
theorem as_inner (g b0 t : Addr) (e : Int) (old : Value) (w : World) (hb0 : w.cell? b0 = some (.pointer (some t))) (hg : w.cell? g = some (.int .i64 e)) (ht0 : w.cell? t = some old) (hf0 : w.frozen? t = false) :
    Calls Tryz.prog 119 #[.iface 96 (.pointer (some g)), .iface 140 (.pointer (some t)), .agg #[.pointer (some ⟨8, 140, none⟩), .pointer (some b0), .int .u64 150], .iface 255 (.agg #[.pointer (some ⟨8, 89, none⟩)])] w fun ev w' => ev = .returned (.bool true) ∧ w'.cell? t = some (.int .i64 e) ∧ Below t.block w w' := by
  have h35 := @run_callFunc_extern Tryz.prog 171 _ ReflectliteType.typeOf Tryz.func171 (by kernel_rfl) (by kernel_rfl) (by kernel_rfl) (by kernel_rfl)
  have h62 := @run_callFunc_extern Tryz.prog 305 _ (ReflectliteType.relation "AssignableTo" ReflectliteType.assignableTo) Tryz.func305 (by kernel_rfl) (by kernel_rfl) (by kernel_rfl) (by kernel_rfl)
  have t52 := typeOf52
  have t27 := typeOf27
  have mA := methodA
  have a52 := assignable52
  have a27 := assignable27
  have l89 := lacks89
  have h66 := has66
  have mU := methodU
  have h36 := @run_callFunc_extern Tryz.prog 172 _ (ReflectliteValue.method (ReflectliteValue.valueError "reflectlite.Value.Elem" 0) ReflectliteValue.elem) Tryz.func172 (by kernel_rfl) (by kernel_rfl) (by kernel_rfl) (by kernel_rfl)
  have h37 := @run_callFunc_extern Tryz.prog 173 _ ReflectliteValue.set Tryz.func173 (by kernel_rfl) (by kernel_rfl) (by kernel_rfl) (by kernel_rfl)
  have h31 := @run_callFunc_extern Tryz.prog 116 _ (fun args => ReflectliteValue.unpack (args.getD 0 (.tuple #[]))) Tryz.func116 (by kernel_rfl) (by kernel_rfl) (by kernel_rfl) (by kernel_rfl)
  have v27 := valueOf27
  have hgl := lt_cell hg
  have hbl := lt_cell hb0
  have htl := lt_cell ht0
  have hg1 : (w.alloc (.cells #[.pointer (some ⟨8, 140, none⟩), .pointer (some b0), .int .u64 150] 204)).cell? g = some (.int .i64 e) := by rw [World.cell?_alloc_lt _ _ g hgl]; exact hg
  have el := elemV70 b0 t (w.alloc (.cells #[.pointer (some ⟨8, 140, none⟩), .pointer (some b0), .int .u64 150] 204)) (by rw [World.cell?_alloc_lt _ _ b0 hbl]; exact hb0)
  have st := set27 t ⟨w.heap.size + 1, 0, none⟩ e old ((w.alloc (.cells #[.pointer (some ⟨8, 140, none⟩), .pointer (some b0), .int .u64 150] 204)).alloc (.cells #[.int .i64 e] 89))
    (by rw [World.cell?_alloc_at _ _ _ _ (by simp)]; rfl)
    (by rw [World.cell?_alloc_lt _ _ t (by simp; omega), World.cell?_alloc_lt _ _ t htl]; exact ht0)
    (by rw [World.frozen?_alloc_old _ _ t (by simp; omega), World.frozen?_alloc_old _ _ t (Nat.ne_of_lt htl)]; exact hf0)
  have HG : Hid _ := hg1
  clear hg1
  go_enter Tryz.func119, Tryz.ntmps119
  go_wp2_with fail
  refine wp_loop_rounds 2 ?_
  rw [rounds_succ]
  go_wp2_with fail
  refine (unwrap_any g e _ HG.out).mono ?_
  rintro ev w1 ⟨rfl, rfl⟩
  go_wp2_with fail
  rw [rounds_succ]
  go_wp2_with fail
  go_ret
  refine ⟨rfl, ?_, ?_⟩
  · refine World.cell?_setCell_same _ _ _ (u := old) ?_
    rw [World.cell?_alloc_lt _ _ t (by simp; omega), World.cell?_alloc_lt _ _ t htl]
    exact ht0
  · exact (((Below.refl t.block w).alloc (Nat.le_of_lt htl) _).alloc (by simp; omega) _).setCell (Nat.le_refl _) _

set_option maxHeartbeats 4000000 in
set_option maxRecDepth 100000 in
theorem as_hit (g t : Addr) (e : Int) (old : Value) (w : World) (hT : w.cell? ⟨1, 0, none⟩ = some (.iface 255 (.agg #[.pointer (some ⟨8, 31, none⟩)]))) (hg : w.cell? g = some (.int .i64 e)) (ht0 : w.cell? t = some old) (hf0 : w.frozen? t = false) :
    Calls Tryz.prog 63 #[.iface 96 (.pointer (some g)), .iface 140 (.pointer (some t))] w fun ev w' => ev = .returned (.bool true) ∧ w'.cell? t = some (.int .i64 e) ∧ Below t.block w w' := by
  have h31 := @run_callFunc_extern Tryz.prog 116 _ (fun args => ReflectliteValue.unpack (args.getD 0 (.tuple #[]))) Tryz.func116 (by kernel_rfl) (by kernel_rfl) (by kernel_rfl) (by kernel_rfl)
  have h32 := @run_callFunc_extern Tryz.prog 117 _ (ReflectliteValue.methodAny (ReflectliteValue.valueError "reflectlite.Value.Type" 0) (fun t _ _ _ => ReflectliteType.toType t)) Tryz.func117 (by kernel_rfl) (by kernel_rfl) (by kernel_rfl) (by kernel_rfl)
  have h33 := @run_callFunc_extern Tryz.prog 118 _ (ReflectliteValue.method (ReflectliteValue.valueError "reflectlite.Value.IsNil" 0) ReflectliteValue.isNil) Tryz.func118 (by kernel_rfl) (by kernel_rfl) (by kernel_rfl) (by kernel_rfl)
  have h52 := @run_callFunc_extern Tryz.prog 295 _ (ReflectliteType.abiMethod fun t => do pure (.int .u8 (← Rtype.kind t))) Tryz.func295 (by kernel_rfl) (by kernel_rfl) (by kernel_rfl) (by kernel_rfl)
  have h64 := @run_callFunc_extern Tryz.prog 307 _ (ReflectliteType.method ReflectliteType.elem) Tryz.func307 (by kernel_rfl) (by kernel_rfl) (by kernel_rfl) (by kernel_rfl)
  have h65 := @run_callFunc_extern Tryz.prog 308 _ (ReflectliteType.relation "Implements" ReflectliteType.implements_) Tryz.func308 (by kernel_rfl) (by kernel_rfl) (by kernel_rfl) (by kernel_rfl)
  have v70 := valueOf70
  have f70 := type70
  have k70 := kind70
  have k27 := kind27
  have e70 := elem70
  have i27 := implements27
  have mK := methodK
  have mE := methodE
  have mI := methodI
  have hTl := lt_cell hT
  have hgl := lt_cell hg
  have htl := lt_cell ht0
  simp only at hTl
  have n70 := isNil70 ⟨w.heap.size, 0, none⟩ t ((w.alloc (.cells #[.pointer (some t)] 140)).alloc (.cells #[.pointer (some ⟨8, 140, none⟩), .pointer (some ⟨w.heap.size, 0, none⟩), .int .u64 150] 204)) (by simp)
  have hT2 : ((w.alloc (.cells #[.pointer (some t)] 140)).alloc (.cells #[.pointer (some ⟨8, 140, none⟩), .pointer (some ⟨w.heap.size, 0, none⟩), .int .u64 150] 204)).cell? ⟨1, 0, none⟩ = some (.iface 255 (.agg #[.pointer (some ⟨8, 31, none⟩)])) := by
    rw [World.cell?_alloc_lt _ _ ⟨1, 0, none⟩ (by simp; omega), World.cell?_alloc_lt _ _ ⟨1, 0, none⟩ hTl]; exact hT
  go_enter Tryz.func63, Tryz.ntmps63
  go_wp2_with fail
  refine (as_inner g ⟨w.heap.size, 0, none⟩ t e old _ (by simp)
    (by rw [World.cell?_alloc_lt _ _ g (by simp; omega), World.cell?_alloc_lt _ _ g hgl]; exact hg)
    (by rw [World.cell?_alloc_lt _ _ t (by simp; omega), World.cell?_alloc_lt _ _ t htl]; exact ht0)
    (by rw [World.frozen?_alloc_old _ _ t (by simp; omega), World.frozen?_alloc_old _ _ t (Nat.ne_of_lt htl)]; exact hf0)).mono ?_
  rintro ev w1 ⟨rfl, hc, hb⟩
  go_wp2_with fail
  go_ret
  exact ⟨rfl, hc, (((Below.refl t.block w).alloc (Nat.le_of_lt htl) _).alloc (by simp; omega) _).trans hb⟩

set_option maxHeartbeats 1000000 in
theorem as_nil (t : Value) (w : World) :
    Calls Tryz.prog 63 #[.nilIface, t] w fun e w' => e = .returned (.bool false) ∧ w' = w := by
  go_enter Tryz.func63, Tryz.ntmps63
  go_wp2
  go_ret
  exact ⟨rfl, rfl⟩
end Go.Proofs.YtjbdlihlcoldlaaGreatDoor

namespace Go.Proofs.YtjbdlihlcoldlaaGreatDoor
open Go.RowKit

/-- errors' own variable holds the type error. -/
def ET (w : World) : Prop := w.cell? ⟨1, 0, none⟩ = some (.iface 255 (.agg #[.pointer (some ⟨8, 31, none⟩)]))
theorem ET.below {w w' : World} {B : Nat} (h : ET w) (hb : Below B w w') (hB : 1 < B) : ET w' := (hb.cell (by exact hB)).trans h

set_option maxHeartbeats 1000000 in
theorem tell_nil (w : World) : Calls Tryz.prog 38 #[.nilIface] w fun e w' => e = .returned (.int .i64 0) ∧ w' = w := by
  go_enter Tryz.func38, Tryz.ntmps38
  go_wp2
  go_ret
  exact ⟨rfl, rfl⟩

set_option maxHeartbeats 1000000 in
theorem tell_at (g : Addr) (n : Int) (w : World) (hT : ET w) (hg : w.cell? g = some (.int .i64 n)) :
    Calls Tryz.prog 38 #[.iface 96 (.pointer (some g))] w fun e w' => e = .returned (.int .i64 n) ∧ Below w.heap.size w w' := by
  have hT2 := lt_cell hT
  have hgl := lt_cell hg
  simp only at hT2
  have HT : Hid (ET w) := hT
  clear hT
  go_enter Tryz.func38, Tryz.ntmps38
  go_wp2_with fail
  refine (as_hit g ⟨w.heap.size, 0, none⟩ n (.int .i64 0) _ (HT.out.below ((Below.refl w.heap.size w).alloc (Nat.le_refl _) _) hT2) (by rw [World.cell?_alloc_lt _ _ g hgl]; exact hg) (by simp) (by simp)).mono ?_
  rintro e w1 ⟨rfl, hc, hb⟩
  go_wp2_with fail
  go_ret
  exact ⟨rfl, ((Below.refl w.heap.size w).alloc (Nat.le_refl _) _).trans hb⟩

end Go.Proofs.YtjbdlihlcoldlaaGreatDoor
