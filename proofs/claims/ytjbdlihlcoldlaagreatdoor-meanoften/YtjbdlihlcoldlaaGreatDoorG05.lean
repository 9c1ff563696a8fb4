/- A range over a function whose iterator writes nothing of what lay: the round's bookkeeping, once for all, at the wide fence; a round goes on, or returns. -/
import Derived.RangeFuncNested
import Derived.RangeFuncLeaves
namespace Go.Proofs.RFC
open Go Go.RowKit

/-- The loop's record stands at b + 1, the rounds' deferred calls (none) at b. -/
def Bk (b : Nat) (r : Loop) (W : World) : Prop := W.heap[b + 1]? = some (.loop r) ∧ W.heap[b]? = some (.deferred (some []))

theorem Bk.lt {b : Nat} {r : Loop} {W : World} (h : Bk b r W) : b + 1 < W.heap.size := (Array.getElem?_eq_some_iff.1 h.1).1
theorem Bk.grown {b : Nat} {r : Loop} {A A' : World} {row : Option Nat} (h : Bk b r A) (hg : A.grownBy A' row) (hr : ∀ k, row = some k → k < b) : Bk b r A' :=
  ⟨(hg.block _ h.lt (fun e => by have := hr _ e.symm; omega)).trans h.1, (hg.block _ (by have := h.lt; omega) (fun e => by have := hr _ e.symm; omega)).trans h.2⟩
theorem Bk.kept {b : Nat} {r : Loop} {A A' : World} (h : Bk b r A) (hk : KeepsFrom b A A') : Bk b r A' :=
  ⟨hk.same _ _ (by omega) h.1 rfl, hk.same _ _ (Nat.le_refl _) h.2 rfl⟩
theorem Bk.put {b : Nat} {r : Loop} {A : World} (h : Bk b r A) (r' : Loop) : Bk b r' (A.putObj (b + 1) (.loop r')) :=
  ⟨World.putObj_heap_same h.lt, (World.putObj_heap_other (by omega)).trans h.2⟩

/-- What is said of a world does not mind new blocks, or a turn of what is no cells from b on. -/
def Calm {β : Type} (b : Nat) (I : β → World → Prop) : Prop :=
  ∀ s A A' row, I s A → A.grownBy A' row → (∀ k, row = some k → b ≤ k ∧ ∃ o : Obj, A.heap[k]? = some o ∧ o.isCells = false) → I s A'

theorem Calm.alloc {β : Type} {b : Nat} {I : β → World → Prop} (h : Calm b I) {s : β} {A : World} (o : Obj) (hs : I s A) : I s (A.alloc o) :=
  h s A _ none hs (World.grownBy_alloc A o none) (fun k e => by cases e)
theorem Calm.put {β : Type} {b : Nat} {I : β → World → Prop} (h : Calm b I) {s : β} {A : World} {r : Loop} (hk : Bk b r A) (r' : Loop) (hs : I s A) : I s (A.putObj (b + 1) (.loop r')) :=
  h s A _ (some (b + 1)) hs (grownBy_putObj' A _ _) (fun k e => by cases e; exact ⟨by omega, _, hk.1, rfl⟩)
theorem Calm.and {β : Type} {b : Nat} {I J : β → World → Prop} (h : Calm b I) (k : Calm b J) : Calm b (fun s W => I s W ∧ J s W) :=
  fun s A A' row hs hg hr => ⟨h s A A' row hs.1 hg hr, k s A A' row hs.2 hg hr⟩

/-- An iterator that writes nothing of what lay: whatever a caller holds. Y: what it hands out; S: what has come when it is done. -/
def Walks {α : Type} (n : Nat) (P : Program) (g : Nat) (lb : Array Value) (encs : α → Array Value) (Kp : World → World → Prop) (Y : List α → α → Prop) (S : List α → Prop) (w : World) : Prop :=
  ∀ (l : Nat) (J : List α → World → Prop) (Jx : World → Prop) (W : World), Below w.heap.size w W →
    (∀ pre x W1, J pre W1 → Y pre x → YieldAt Fence.wide (n - 1) P l (encs x) W1 fun e W' =>
      (e = .returned (.bool true) ∧ J (pre ++ [x]) W' ∧ Kp W1 W') ∨ (e = .returned (.bool false) ∧ Jx W')) →
    J [] W →
    CallsIn Fence.wide n P g (#[.func (.yield l) #[] #[]] ++ lb) W fun e W' => (∃ v, e = .returned v) ∧ ((∃ xs, S xs ∧ J xs W') ∨ Jx W')

/-- How a round's body is left: it goes on, or it returns. -/
def left {α : Type} (b : Nat) (Kp : World → World → Prop) (I : List α → World → Prop) (Ix : World → Prop) (xs : List α) (W : World) : Exit → Act → World → Prop
  | .normal, _, W' => KeepsFrom b W W' ∧ Kp W W' ∧ I xs W'
  | .ret, _, W' => KeepsFrom b W W' ∧ Ix W'
  | _, _, _ => False

theorem rangeFunc {α : Type} {n : Nat} {P : Program} {g : Operand} {ps : Array Tmp} {assign body : Code} {Q : Exit → Act → World → Prop} {a : Act} {w : World}
    {gf : Nat} {lb : Array Value} (hg : a.eval g = .func (.func gf) #[] lb) (eg : ∀ args w, (callFunc gf args).run P w = .ok (.enter gf args) w) (h1 : 1 ≤ n)
    {encs : α → Array Value} (hps : ∀ x, (encs x).size = ps.size) {Kp : World → World → Prop} {Y : List α → α → Prop} {S : List α → Prop}
    (hit : Walks (n - 1) P gf lb encs Kp Y S w)
    (hKt : ∀ {X Y Z : World}, Kp X Y → Kp Y Z → Kp X Z) (hKb : ∀ (W : World) (l : Nat) (o : Obj), w.heap.size ≤ l → Kp W (W.putObj l o))
    (I : List α → World → Prop) (Ix : World → Prop) (hI : Calm w.heap.size I) (hIx : Calm w.heap.size (fun (_ : Unit) => Ix)) (h0 : I [] w)
    (AxT : Array Value → α → Act → World → Prop) (hAx : ∀ a', Calm w.heap.size (fun x W => AxT a.tmps x a' W))
    (hassign : ∀ (l : Nat) (pre : List α) (x : α) (W : World) (K : Act → World → Prop), I pre W → Y pre x → (∀ a' W', KeepsFrom w.heap.size W W' → Kp W W' → I pre W' → AxT a.tmps x a' W' → K a' W') →
      assign.wpIn (Fence.wide.inRound l) (n - 1 - 1) P (Exit.then K (fun _ _ _ => False)) { tmps := (ps.zip (encs x)).foldl (fun t (p, v) => t.setIfInBounds p v) a.tmps, defers := [] } W)
    (hbody : ∀ (l : Nat) (pre : List α) (x : α) (a' : Act) (W : World), I pre W → AxT a.tmps x a' W → Y pre x → body.wpIn (Fence.wide.inRound l) (n - 1 - 1) P (left w.heap.size Kp I Ix (pre ++ [x]) W) a' W)
    (hdone : ∀ (xs : List α) (W : World), S xs → I xs W → W.heap[w.heap.size]? = some (.deferred (some [])) → Q .normal { a with defers := { target := .collected w.heap.size, args := #[] } :: a.defers } W)
    (hstop : ∀ (W : World), Ix W → W.heap[w.heap.size]? = some (.deferred (some [])) → Code.ret.wpIn Fence.wide n P Q { a with defers := { target := .collected w.heap.size, args := #[] } :: a.defers } W) :
    (Code.rangeFunc g ps assign body).wpIn Fence.wide n P Q a w := by
  refine wpIn_rangeFunc fun fn hfn => ?_
  obtain ⟨r, hr⟩ : ∃ r : Loop, r = { state := .ready, pending := none, fn, tmps := a.tmps, params := ps, assign, body, defers := w.heap.size } := ⟨_, rfl⟩
  obtain ⟨W1, hW1⟩ : ∃ W1, W1 = (w.alloc (.deferred (some []))).alloc (.loop r) := ⟨_, rfl⟩
  have hbk : Bk w.heap.size r W1 := by
    constructor
    · rw [hW1]
      have := World.alloc_heap_new (w.alloc (.deferred (some []))) (.loop r)
      rwa [World.size_alloc] at this
    · rw [hW1]
      exact (Below.heap_alloc _ _ _ (by simp)).trans (World.alloc_heap_new w _)
  have hI1 : I [] W1 := by rw [hW1]; exact hI.alloc _ (hI.alloc _ h0)
  have hb1 : Below w.heap.size w W1 := by rw [hW1]; exact ((Below.refl _ w).alloc (Nat.le_refl _) _).alloc (by simp) _
  refine ⟨w.heap.size + 1, [{ target := .collected w.heap.size, args := #[] }], W1, { target := .fn (.func gf) lb, args := #[.func (.yield (w.heap.size + 1)) #[] #[]] }, W1, gf,
    #[.func (.yield (w.heap.size + 1)) #[] #[]] ++ lb, W1, ?_, ?_, fun _ _ => trivial, ?_, fun _ => h1, ?_⟩
  · rw [hW1, hr]; exact run_enterLoop_outer _ _ _ _ _
  · simp only [resolve, hg]
    simp [go_sem]
  · simp [invoke, go_sem, eg]
  refine (hit (w.heap.size + 1) (fun pre W => I pre W ∧ Bk w.heap.size r W) (fun W => Ix W ∧ Bk w.heap.size { r with state := .done, pending := some .ret } W) W1 hb1
    ?_ ⟨hI1, hbk⟩).mono ?_
  · rintro pre x W ⟨hi, hk⟩ hy
    have hyl := run_yield (P := P) (args := encs x) hk.1 (by rw [hr]; exact hps x)
    refine ⟨r.fn, _, r.assign, r.body, hyl, roundIn_of_wpIn trivial ?_⟩
    clear hyl
    subst hr
    refine hassign _ pre x W _ hi hy fun a' Wa hka hpa hia hax => ?_
    have hk2 := hk.kept hka
    have hk3 := hk2.put { ({ state := .ready, pending := none, fn, tmps := a.tmps, params := ps, assign, body, defers := w.heap.size } : Loop) with state := .busy }
    refine ⟨_, run_beginRound hk2.1 rfl, ?_⟩
    refine wpIn_mono (hbody _ pre x a' _ (hI.put hk2 _ hia) (hAx a' x _ _ (some (w.heap.size + 1)) hax (grownBy_putObj' _ _ _) (fun k e => by cases e; exact ⟨by omega, _, hk2.1, rfl⟩)) hy) ?_
    rintro e a3 W3 hp
    cases e with
    | normal =>
      obtain ⟨k3, p3, i3⟩ := hp
      have hk4 := hk3.kept k3
      exact ⟨_, _, run_endRound none hk4.1, .inl ⟨rfl, ⟨hI.put hk4 _ i3, hk4.put _⟩, hKt hpa (hKt (hKb _ _ _ (by omega)) (hKt p3 (hKb _ _ _ (by omega))))⟩⟩
    | ret =>
      obtain ⟨k3, i3⟩ := hp
      have hk4 := hk3.kept k3
      exact ⟨_, _, run_endRound (some .ret) hk4.1, .inr ⟨rfl, hIx.put (s := ()) hk4 _ i3, hk4.put _⟩⟩
    | exit id => exact hp.elim
    | goto t => exact hp.elim
    | panic ch => exact hp.elim
    | outgrown => exact hp.elim
  · rintro e W2 ⟨⟨v, rfl⟩, (⟨xs, hS, hi, hk⟩ | ⟨hi, hk⟩)⟩
    · exact ⟨none, _, (by have := run_endLoop (P := P) hk.1 (by rw [hr]; simp); rw [this, hr]), hdone xs _ hS (hI.put hk _ hi) (hk.put _).2⟩
    · exact ⟨some .ret, _, run_endLoop (P := P) hk.1 (by simp), hstop _ (hIx.put (s := ()) hk _ hi) (hk.put _).2⟩

end Go.Proofs.RFC
