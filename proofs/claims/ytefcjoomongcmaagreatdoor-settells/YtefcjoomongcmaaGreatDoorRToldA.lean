/- The document's told: the set of points of which a question says yes. -/
import Derived.Test.YtefcjoomongcmaaGreatDoorRSort
import Derived.Test.YtefcjoomongcmaaGreatDoorToldMath
import Derived.Deep.RegionHeld3
import Derived.Deep.RegionLaw
import Derived.BigRegion
namespace Go.Proofs.YtefcjoomongcmaaGreatDoor
open Go.RowKit

theorem info3 : (Tryz.prog.info? 3).map (fun i => (i.zero, i.size, i.bytes)) = some (some (.int .i64 0), 1, 8) := by kernel_rfl

theorem one_int (n : Int) : ∀ u ∈ [intV n], u.oneCell' = true := by intro u hu; simp at hu; subst hu; rfl

theorem int_at {w : World} {b : Nat} {n : Int} (h : w.cell? ⟨b, 0, none⟩ = some (.int .i64 n)) : ∀ j u, [intV n][j]? = some u → w.cell? ((⟨b, 0, none⟩ : Addr).add j) = some u := by
  intro j u hj
  match j, hj with
  | 0, hj => simp at hj; subst hj; simpa [Addr.add, intV] using h
  | j + 1, hj => simp at hj

/-- One number more at the end of a row of the call's own. -/
theorem wpList_append_int {w : World} {ops : Array Oper} {rest : List Oper} {o : Oper} {a : Act} {Q : Exit → Act → World → Prop} (hgd : o.guard = none) (s x : Operand)
    (ho : o.op = .call { callee := .builtin .append, args := #[s, x], argTypes := #[70, 70] }) (B : Nat) (v : Value) (zs : List Int) (n : Int) (b : Nat) (hs : a.eval s = v) (hx : a.eval x = .slice (some ⟨b, 0, none⟩) 1 1)
    (hown : w.ownsRow B 3 1 v zs.length (zs.map intV)) (hc : w.cell? ⟨b, 0, none⟩ = some (.int .i64 n)) (hB : B ≤ w.heap.size) (hl : zs.length ≤ 1000000)
    (h : ∀ v' w', w'.ownsRow B 3 1 v' (zs ++ [n]).length ((zs ++ [n]).map intV) → w.grownBy w' v.ownBlock → wpList Tryz.prog ops Q rest (a.put o.dst v') w') : wpList Tryz.prog ops Q (o :: rest) a w := by
  obtain ⟨i0, hi, hz0, hz1, hz2⟩ := info_parts info3
  refine wpList_append_own _ hgd s x 70 ho B 3 i0 (.int .i64 0) 1 8 Tryz.underlying70 hi hz0 hz1 hz2 rfl (by decide) v _ _ hs hown ⟨b, 0, none⟩ 1 1 [intV n] hx rfl (int_at hc) (one_int n) (by unfold maxLen; omega) (by omega) hB ?_
  intro v' w' hown' hg _
  refine h v' w' ?_ hg
  rw [List.map_append, List.length_append]
  exact hown'

/-- A function value tells f, at every number, in every later world. -/
def Tells (gf : Nat) (lb : Array Value) (f : Int → Bool) (w : World) : Prop :=
  ∀ (p : Int) (W : World), Below w.heap.size w W → Calls Tryz.prog gf (#[.int .i64 p] ++ lb) W fun e W' => e = .returned (.bool (f p)) ∧ Below W.heap.size W W'

theorem Tells.below {gf : Nat} {lb : Array Value} {f : Int → Bool} {w w' : World} (h : Tells gf lb f w) (hb : Below w.heap.size w w') : Tells gf lb f w' :=
  fun p W hW => h p W (hb.trans (hW.mono hb.size))

theorem places_snoc (s : List RS.Rg) (k : Nat) (h : k < s.length) : RS.places (s.take (k + 1)) = RS.places (s.take k) ++ RS.placesR s[k] := by
  unfold RS.places
  rw [List.take_succ_eq_append_getElem h, List.flatMap_append]
  simp only [List.flatMap_cons, List.flatMap_nil, List.append_nil]

theorem all_snoc (ls : List (List RS.Rg)) (k : Nat) (h : k < ls.length) : RS.allPlaces (ls.take (k + 1)) = RS.allPlaces (ls.take k) ++ RS.places ls[k] := by
  unfold RS.allPlaces
  rw [List.take_succ_eq_append_getElem h, List.flatMap_append, List.append_assoc]
  simp only [List.flatMap_cons, List.flatMap_nil, List.append_nil]

theorem placesR_len (r : RS.Rg) : (RS.placesR r).length ≤ 2 := by
  unfold RS.placesR
  rw [List.length_append]
  split <;> split <;> simp

theorem places_len (s : List RS.Rg) : (RS.places s).length ≤ 2 * s.length := by
  induction s with
  | nil => simp [RS.places]
  | cons r s ih =>
    have e : RS.places (r :: s) = RS.placesR r ++ RS.places s := by simp [RS.places]
    have := placesR_len r
    rw [e, List.length_append, List.length_cons]
    omega

def tot (ls : List (List RS.Rg)) : Nat := (ls.map List.length).sum

theorem all_len (ls : List (List RS.Rg)) : (RS.allPlaces ls).length ≤ 2 + 2 * tot ls := by
  unfold RS.allPlaces
  rw [List.length_append]
  have : (ls.flatMap RS.places).length ≤ 2 * tot ls := by
    induction ls with
    | nil => simp [tot]
    | cons s ls ih =>
      have h := places_len s
      have e : tot (s :: ls) = s.length + tot ls := by simp [tot]
      rw [List.flatMap_cons, List.length_append, e]
      omega
  show 2 + (ls.flatMap RS.places).length ≤ _
  omega

theorem tot_take (ls : List (List RS.Rg)) (k : Nat) : tot (ls.take k) ≤ tot ls := by
  induction ls generalizing k with
  | nil => simp
  | cons s ls ih =>
    cases k with
    | zero => simp [tot]
    | succ k =>
      have := ih k
      have e : tot (s :: ls) = s.length + tot ls := by simp [tot]
      have e2 : tot ((s :: ls).take (k + 1)) = s.length + tot (ls.take k) := by simp [tot]
      omega

theorem tot_get (ls : List (List RS.Rg)) (k : Nat) (h : k < ls.length) : ls[k].length ≤ tot ls := by
  induction ls generalizing k with
  | nil => simp at h
  | cons s ls ih =>
    have e : tot (s :: ls) = s.length + tot ls := by simp [tot]
    cases k with
    | zero => simp; omega
    | succ k => have := ih k (by simpa using h); simp; omega

theorem addR_snoc : ∀ (pre : List RS.Rg) (c : RS.Rg) (a h : Int), RS.addR (pre ++ [c]) a h = if c.2 + 1 = a then pre ++ [(c.1, h)] else pre ++ [c] ++ [(a, h)] := by
  intro pre
  induction pre with
  | nil => intro c a h; simp [RS.addR]
  | cons r pre ih =>
    intro c a h
    cases pre with
    | nil =>
      rw [List.cons_append, List.nil_append, RS.addR]
      have := ih c a h
      rw [List.nil_append] at this
      rw [this]
      split <;> rfl
    | cons q pre =>
      rw [List.cons_append, List.cons_append, RS.addR]
      have := ih c a h
      rw [List.cons_append] at this
      rw [this]
      split <;> rfl

theorem told_step {f : Int → Bool} {d : List Int} {acc : List RS.Rg} {k : Nat} (h : k + 1 < d.length) : RS.toldFrom f acc (d.drop k) = RS.toldFrom f (if d[k] = d[k + 1] ∨ f d[k] = false then acc else RS.addR acc d[k] (d[k + 1] - 1)) (d.drop (k + 1)) := by
  rw [List.drop_eq_getElem_cons (show k < d.length by omega), List.drop_eq_getElem_cons h, RS.toldFrom_cons]

theorem told_end {f : Int → Bool} {d : List Int} {acc : List RS.Rg} {k : Nat} (h : d.length ≤ k + 1) : RS.toldFrom f acc (d.drop k) = acc := by
  rcases Nat.lt_or_ge k d.length with hk | hk
  · rw [List.drop_eq_getElem_cons hk, List.drop_of_length_le h]
    rfl
  · rw [List.drop_of_length_le hk]
    rfl

end Go.Proofs.YtefcjoomongcmaaGreatDoor
