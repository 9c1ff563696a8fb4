/- What the document's own Run is held to, by what its Match answers: plain. -/
import Derived.Test.YtddjppkpgflbjaaDoorRfG
import Derived.Test.YtddjppkpgflbjaaDoorRfB
import Derived.Test.YtddjppkpgflbjaaDoorRfH
namespace VM

/-- A rule matches at a place. -/
def fits (l : List Int) (i : Nat) (r : Ru) : Bool := (run r.before (l.take i).reverse [0]).1 && (run r.after (l.drop i) [0]).1

/-- What the first rule that matches says. -/
def say (el : Bool) (l : List Int) (i : Nat) : List Ru → Bool
  | [] => el
  | r :: rs => if fits l i r then r.brk else say el l i rs

/-- .. of each place. -/
def saysOf (el : Bool) (l : List Int) (rs : List Ru) : List Bool := (List.range (l.length + 1)).map fun i => say el l i rs

end VM
namespace Go.Proofs.YtddjppkpgflbjaaDoor
open Go.RowKit Go.Shelf

/-- What Match is held to. -/
def MatchSays : Prop := ∀ (sv iv lv : Value) (c : VM.Co) (l : List Int) (W : World), Small W.heap.size W sv iv c → PtsAt W.heap.size W lv l → l.length ≤ 100000 → VM.right c = true →
  Calls Tryd.prog 7 #[.agg #[sv, iv], lv] W fun e W' => e = .returned (.tuple #[.bool (VM.run c l [0]).1, .int .i64 ((VM.run c l [0]).2 : Nat), .int .i64 0]) ∧ Below W.heap.size W W'

/-- What Run answers. -/
def RunSay (q : Bool) (s : List Bool) (n : Nat) (e : Ending) (w' : World) : Prop :=
  (q = true → ∃ v, e = .returned (.tuple #[v, .int .i64 0]) ∧ PtsAt w'.heap.size w' v (breaksOf s n)) ∧ (q = false → e = .returned (.tuple #[.slice none 0 0, .int .i64 1]))

/-- The places told before so many are looked at. -/
def toldOf (s : List Bool) (n i : Nat) : List Int := if i = 0 then [] else if i ≤ n then 0 :: insides s i else 0 :: insides s n ++ [(n : Int)]

theorem told_succ (s : List Bool) (n i : Nat) (hn : 0 < n) (hi : i ≤ n) : toldOf s n (i + 1) = if (s.getD i false || decide (i = 0) || decide (i = n)) then toldOf s n i ++ [(i : Int)] else toldOf s n i := by
  unfold toldOf
  by_cases h0 : i = 0
  · subst h0
    simp [insides_one, show (1 ≤ n) by omega]
  · by_cases h1 : i = n
    · subst h1
      simp only [h0, Nat.add_eq_zero_iff, Nat.le_refl, if_true, if_false, decide_true, Bool.or_true, false_and]
      rw [if_neg (by omega)]
    · have h2 : i + 1 ≤ n := by omega
      have h3 : 1 ≤ i := by omega
      simp only [h0, h1, h2, hi, if_true, if_false, decide_false, Bool.or_false, insides_succ s i h3, Nat.succ_ne_zero]
      cases s.getD i false <;> simp

end Go.Proofs.YtddjppkpgflbjaaDoor
