/- Rows of classes and of rules in memory, and how they grow. -/
import Derived.Test.YtjbmdnkpfkelmaaGreatDoorParP
import Derived.Test.YtjbmdnkpfkelmaaGreatDoorPlain
namespace Go.Proofs.YtjbmdnkpfkelmaaGreatDoor.Q
open Go.RowKit Go.Shelf

/-- An append of one to an own row, and which block the row lies in then. -/
theorem append_at {P : Program} (w : World) (base : Nat) (t ty e : TypeId) (i : TypeInfo) (z : Value) (size bytes : Nat) (ht : P.underlying t = some (.slice e)) (hi : P.info? e = some i) (hz : i.zero = some z)
    (hsize : i.size = size) (hby : i.bytes = bytes) (hzs : z.cells.size = size) (hsz : 0 < size)
    (v : Value) (n : Nat) (xs : List Value) (hown : w.ownsRow base e size v n xs)
    (a : Addr) (c : Nat) (news : List Value) (hl : news.length = 1 * size) (hnews : ∀ j x, news[j]? = some x → w.cell? (a.add j) = some x) (h1 : ∀ x ∈ news, x.oneCell' = true)
    (h63 : n + 1 ≤ maxLen) (hbytes : (n + 1) * bytes ≤ 140737488355328) (hbase : base ≤ w.heap.size) :
    ∃ v' w', (Builtin.append_ #[t, t] ty #[v, .slice (some a) 1 c]).run P w = .ok v' w' ∧ w'.ownsRow base e size v' (n + 1) (xs ++ news) ∧ w.grownBy w' v.ownBlock ∧ (v'.ownBlock = v.ownBlock ∨ v'.ownBlock = some w.heap.size) := by
  obtain ⟨v', w', hr, h2, h3, _⟩ := run_append_own (P := P) w base t ty e i z size bytes ht hi hz hsize hby hzs hsz v n xs hown a 1 c news hl hnews h1 h63 hbytes hbase
  refine ⟨v', w', hr, h2, h3, ?_⟩
  subst hsize
  have h63' : n + 1 ≤ 9223372036854775807 := by simp only [maxLen] at h63; omega
  rcases hown.2 with ⟨rfl, rfl⟩ | ⟨g, cap, cur, rfl, hbg, hg, hnc, hcm, hcs, htake⟩
  · have hr2 := run_append_nil (P := P) w t ty e i z ht hi hz a 1 c news hl hnews (by omega) (by omega) (by rw [hby]; omega)
    rw [hr2] at hr
    cases hr
    exact .inr rfl
  · by_cases hroom : n + 1 ≤ cap
    · have hr2 := run_append_room (P := P) w t ty e i ht hi g n cap cur hg a 1 c news hl hnews h1 hroom (by rw [hl, hcs, ← Nat.add_mul]; exact Nat.mul_le_mul_right _ hroom)
      rw [hr2] at hr
      cases hr
      exact .inl rfl
    · have hr2 := run_append_grow (P := P) w t ty e i z ht hi hz ⟨g, 0, none⟩ n cap xs hown.1 (hown.cells (g := g) rfl) a 1 c news hl hnews (by omega) (by omega) (growslice_fits (by omega) (by rw [hby]; exact hbytes))
      rw [hr2] at hr
      cases hr
      exact .inr rfl

/-- These cells hold these classes. -/
def CsAt (ok : Nat → Prop) (w : World) : List Value → List RP.Cl → Prop
  | vs, [] => vs = []
  | vs, x :: xs => ∃ kv us, vs = .string ⟨x.name.toArray⟩ :: .int .i64 x.at_ :: kv :: us ∧ KAt ok w kv x.kind ∧ CsAt ok w us xs

/-- These cells hold these rules. -/
def RsAt (ok : Nat → Prop) (w : World) : List Value → List RP.Ru → Prop
  | vs, [] => vs = []
  | vs, x :: xs => ∃ bv av us, vs = .int .i64 x.at_ :: .bool x.brk :: bv :: av :: us ∧ IsPtr bv ∧ PAt ok w [bv] x.before ∧ IsPtr av ∧ PAt ok w [av] x.after ∧ RsAt ok w us xs

theorem CsAt.turn {ok ok' : Nat → Prop} {w w' : World} (hK : ∀ {k : RP.K} {v : Value}, KAt ok w v k → KAt ok' w' v k) : ∀ {xs : List RP.Cl} {vs : List Value}, CsAt ok w vs xs → CsAt ok' w' vs xs
  | [], _, h => h
  | _ :: xs, _, ⟨kv, us, e, h1, h2⟩ => ⟨kv, us, e, hK h1, CsAt.turn hK (xs := xs) h2⟩

theorem RsAt.turn {ok ok' : Nat → Prop} {w w' : World} (hP : ∀ {p : RP.Pt} {vs : List Value}, PAt ok w vs p → PAt ok' w' vs p) : ∀ {xs : List RP.Ru} {vs : List Value}, RsAt ok w vs xs → RsAt ok' w' vs xs
  | [], _, h => h
  | _ :: xs, _, ⟨bv, av, us, e, h1, h2, h3, h4, h5⟩ => ⟨bv, av, us, e, h1, hP h2, h3, hP h4, RsAt.turn hP (xs := xs) h5⟩

theorem CsAt.snoc {ok : Nat → Prop} {w : World} {x : RP.Cl} {kv : Value} (hx : KAt ok w kv x.kind) : ∀ {xs : List RP.Cl} {vs : List Value}, CsAt ok w vs xs → CsAt ok w (vs ++ [.string ⟨x.name.toArray⟩, .int .i64 x.at_, kv]) (xs ++ [x])
  | [], vs, h => by obtain rfl : vs = [] := h; exact ⟨kv, [], rfl, hx, rfl⟩
  | _ :: xs, _, ⟨kv', us, e, h1, h2⟩ => by subst e; exact ⟨kv', _, rfl, h1, CsAt.snoc hx (xs := xs) h2⟩

theorem RsAt.snoc {ok : Nat → Prop} {w : World} {x : RP.Ru} {bv av : Value} (hb : IsPtr bv) (hbp : PAt ok w [bv] x.before) (ha : IsPtr av) (hap : PAt ok w [av] x.after) : ∀ {xs : List RP.Ru} {vs : List Value}, RsAt ok w vs xs → RsAt ok w (vs ++ [.int .i64 x.at_, .bool x.brk, bv, av]) (xs ++ [x])
  | [], vs, h => by obtain rfl : vs = [] := h; exact ⟨bv, av, [], rfl, hb, hbp, ha, hap, rfl⟩
  | _ :: xs, _, ⟨bv', av', us, e, h1, h2, h3, h4, h5⟩ => by subst e; exact ⟨bv', av', _, rfl, h1, h2, h3, h4, RsAt.snoc hb hbp ha hap (xs := xs) h5⟩

theorem info44' : (Tryz.prog.info? 44).map (fun i => (i.zero, i.size, i.bytes)) = some (some (.agg #[.string ⟨#[]⟩, .int .i64 0, .pointer none]), 3, 32) := by kernel_rfl
theorem info48' : (Tryz.prog.info? 48).map (fun i => (i.zero, i.size, i.bytes)) = some (some (.agg #[.int .i64 0, .bool false, .pointer none, .pointer none]), 4, 32) := by kernel_rfl

end Go.Proofs.YtjbmdnkpfkelmaaGreatDoor.Q
