/-
  A range over Walk, whatever its body does beside the order that is walked. Premises: a walk that goes through keys, as the theorem says it; a body that keeps the order's blocks and the loop's own.
-/
import Derived.Test.YtpbmgaipeofpaaaNH
namespace Go.Proofs.Ytpbmgaipeofpaaa
open Go.RowKit

attribute [local go_sem] Oper.semAt_some wide_fn wide_depth
/-- The loop's own blocks. -/
def Own3 (n0 k : Nat) : Prop := n0 ≤ k ∧ k < n0 + 3
set_option maxHeartbeats 1000000 in
theorem range_gen {n : Nat} {g : Operand} {ps : Array Tmp} {assign body : Code} {Q : Exit → Act → World → Prop} {a : Act} {w : World} {rv : Value} {L : List ByteArray} {S : Nat → Prop}
    (hg : a.eval g = .func (.func 30) #[rv] #[]) (hps : ps.size = 1) (hI : Iter S w rv L) (hS : ∀ k, S k → k < w.heap.size)
    (J : List ByteArray → World → Prop) (h0 : J [] w)
    (hJ : ∀ pre W W', J pre W → Below 0 W W' → (∀ k, k < W.heap.size → ¬ S k → ¬ Own3 w.heap.size k → W'.heap[k]? = W.heap[k]?) → J pre W') (a₁ : ByteArray → Act)
    (hassign : ∀ (l : Nat) (x : ByteArray) (W : World) (K : Act → World → Prop), K (a₁ x) W →
      assign.wpIn (Fence.wide.inRound l) (n - 1 - 1) Try.prog (Exit.then K (fun _ _ _ => False)) { tmps := (ps.zip #[.string x]).foldl (fun t (p, v) => t.setIfInBounds p v) a.tmps, defers := [] } W)
    (hbody : ∀ (l : Nat) (pre : List ByteArray) (x : ByteArray) (W : World), J pre W → w.heap.size + 3 ≤ W.heap.size → (pre ++ [x]) <+: L →
      body.wpIn (Fence.wide.inRound l) (n - 1 - 1) Try.prog (fun e _ W' => e = .normal ∧ J (pre ++ [x]) W' ∧ Below 0 W W' ∧ ∀ k, k < W.heap.size → (S k ∨ Own3 w.heap.size k) → W'.heap[k]? = W.heap[k]?) (a₁ x) W)
    (hdone : ∀ (W : World), W.heap[w.heap.size]? = some (.deferred (some [])) → J L W → KpN S w W → Q .normal { a with defers := { target := .collected w.heap.size, args := #[] } :: a.defers } W) :
    (Code.rangeFunc g ps assign body).wpIn Fence.wide n Try.prog Q a w := by
  refine wpIn_rangeFunc ?_
  intro fn hfn
  obtain ⟨rec, hrec⟩ : ∃ rec : LoopState → Loop, rec = fun st => { state := st, pending := Option.none, fn, tmps := a.tmps, params := ps, assign, body, defers := w.heap.size } := ⟨_, rfl⟩
  obtain ⟨W2, hW2⟩ : ∃ W2, W2 = (w.alloc (.deferred (some []))).alloc (.loop (rec .ready)) := ⟨_, rfl⟩
  obtain ⟨D, hD⟩ : ∃ D, D = w.heap.size := ⟨_, rfl⟩
  obtain ⟨l, hl⟩ : ∃ l, l = w.heap.size + 1 := ⟨_, rfl⟩
  have hs2 : W2.heap.size = w.heap.size + 2 := by rw [hW2]; simp
  have hL2 : W2.heap[l]? = some (.loop (rec .ready)) := by
    rw [hW2, hl]
    have := World.alloc_heap_new (w.alloc (.deferred (some []))) (.loop (rec .ready))
    rwa [World.size_alloc] at this
  have hD2 : W2.heap[D]? = some (.deferred (some [])) := by
    rw [hW2, hD]
    exact (Below.heap_alloc _ _ _ (by simp)).trans (World.alloc_heap_new w _)
  have o2 : Only [] w W2 := by rw [hW2]; exact ((Only.refl [] w).alloc _).alloc _
  have hSl : ¬ S l := fun h => by have := hS l h; omega
  have hSD : ¬ S D := fun h => by have := hS D h; omega
  have hol : Own3 w.heap.size l := ⟨by omega, by omega⟩
  have hJ0 : J [] W2 := hJ [] w W2 h0 o2.1 (fun k hk _ _ => o2.2 k hk (by simp))
  refine ⟨l, [{ target := .collected w.heap.size, args := #[] }], W2, { target := .fn (.func 30) #[], args := #[rv, .func (.yield l) #[] #[]] }, W2, 30,
    #[rv, .func (.yield l) #[] #[]], W2, ?_, ?_, fun _ _ => trivial, ?_, fun h => (by cases h), ?_⟩
  · rw [hW2, hl, hrec]
    exact run_enterLoop_outer _ _ _ _ _
  · simp only [resolve, hg]
    simp [go_sem]
  · have eg := enters_of Try.func30 (by kernel_rfl) rfl
    simp [invoke, go_sem, eg _ _]
  refine (hI (n - 1) l W2 (fun pre W => J pre W ∧ W.heap[l]? = some (.loop (rec .ready)) ∧ W.heap[D]? = some (.deferred (some []))) o2 (fun pre W W' hj he => ?_) ?_ ⟨hJ0, hL2, hD2⟩).mono ?_
  · obtain ⟨j1, j2, j3⟩ := hj
    refine ⟨hJ pre W W' j1 he.1 (fun k hk hs ho => he.2 k hk hs (fun e => ho ⟨by omega, by omega⟩)), ?_, ?_⟩
    · rw [he.2 l (some_lt j2) hSl (by omega)]; exact j2
    · rw [he.2 D (some_lt j3) hSD (by omega)]; exact j3
  · rintro pre x W ⟨j1, h4, h5⟩ hWs hlen
    have hlt : l < W.heap.size := some_lt h4
    have hy := run_yield (P := Try.prog) (args := #[.string x]) h4 (by rw [hrec]; simp [hps])
    rw [hrec] at hy
    have hbeg := run_beginRound (P := Try.prog) h4 (by rw [hrec])
    obtain ⟨rb, hrb⟩ : ∃ rb : Loop, rb = { rec .ready with state := .busy } := ⟨_, rfl⟩
    rw [← hrb] at hbeg
    refine ⟨fn, _, assign, body, hy, roundIn_of_wpIn hfn (hassign _ x W _ ⟨_, hbeg, ?_⟩)⟩
    have q1 : Only [l] W (W.putObj l (.loop rb)) := (Only.refl _ W).putObj (Or.inl (by simp)) _
    have q2 : (W.putObj l (.loop rb)).heap[l]? = some (.loop rb) := World.putObj_heap_same hlt
    have hWz : (W.putObj l (.loop rb)).heap.size = W.heap.size := by simp
    have j1' : J pre (W.putObj l (.loop rb)) := hJ pre W _ j1 q1.1 (fun k hk _ ho => q1.2 k hk (fun hm => ho (List.mem_singleton.1 hm ▸ hol)))
    refine wpIn_mono (hbody l pre x _ j1' (by omega) hlen) ?_
    rintro e a3 W3 ⟨rfl, k1, k2, k3⟩
    have q3 : W3.heap[l]? = some (.loop rb) := by rw [k3 l (by omega) (Or.inr hol)]; exact q2
    have q4 := run_endRound (P := Try.prog) Option.none q3
    have hrr : ({ rb with state := LoopState.ready, pending := Option.none } : Loop) = rec .ready := by rw [hrb, hrec]
    rw [show (if (Option.none : Option Code).isNone then LoopState.ready else LoopState.done) = LoopState.ready from rfl, hrr] at q4
    have hle : l < W3.heap.size := some_lt q3
    have q5 : Only [l] W3 (W3.putObj l (.loop (rec .ready))) := (Only.refl _ W3).putObj (Or.inl (by simp)) _
    refine ⟨_, _, q4, rfl, ⟨hJ _ W3 _ k1 q5.1 (fun k hk _ ho => q5.2 k hk (fun hm => ho (List.mem_singleton.1 hm ▸ hol))), World.putObj_heap_same hle, ?_⟩, (q1.1.trans k2).trans q5.1, ?_⟩
    · have hDW := some_lt h5
      rw [World.putObj_heap_other (by omega), k3 D (by omega) (Or.inr ⟨by omega, by omega⟩), World.putObj_heap_other (by omega)]
      exact h5
    · intro k hk hkk
      have hkl : k ≠ l := fun e => by
        rcases hkk with h6 | h6
        · exact hSl (e ▸ h6)
        · omega
      rw [World.putObj_heap_other hkl, k3 k (by omega) (hkk.imp id (fun e => ⟨by omega, by omega⟩)), World.putObj_heap_other hkl]
  · rintro e W3 ⟨rfl, ⟨j1, h4, h5⟩, hk⟩
    have q1 := run_endLoop (P := Try.prog) h4 (by rw [hrec]; simp)
    have hp : (rec .ready).pending = Option.none := by rw [hrec]
    rw [hp] at q1
    have hlS : ∀ k, S k → k ≠ l := fun k hk e => hSl (e ▸ hk)
    refine ⟨Option.none, _, q1, ?_⟩
    rw [← hD]
    have q5 : ∀ o, Only [l] W3 (W3.putObj l o) := fun o => (Only.refl _ W3).putObj (Or.inl (by simp)) o
    have hdn := fun o => hdone (W3.putObj l o) (by rw [← hD, World.putObj_heap_other (by omega)]; exact h5) (hJ _ W3 _ j1 (q5 o).1 (fun k hk _ ho => (q5 o).2 k hk (fun hm => ho (List.mem_singleton.1 hm ▸ hol)))) ⟨(o2.1.trans hk.1).trans (q5 o).1, fun k hkS => by
      rw [World.putObj_heap_other (hlS k hkS), hk.2 k hkS, o2.2 k (hS k hkS) (by simp)]⟩
    rw [← hD] at hdn
    exact hdn _
end Go.Proofs.Ytpbmgaipeofpaaa
