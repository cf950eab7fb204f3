/-
  All: a range over Walk, whose body appends to a row. Premises: a walk that goes through keys, as the theorem says it.
-/
import Derived.Test.YtpbmgaipeofpaaaI
import Derived.Shelf.Abstract
namespace Go.Proofs.Ytpbmgaipeofpaaa
open Go.RowKit

attribute [local go_sem] Oper.semAt_some wide_fn wide_depth
theorem wpListIn_append_rowT {F : Fence} {n : Nat} {w : World} {ops : Array Oper} {rest : List Oper} {o : Oper} {a : Act} {Q : Exit → Act → World → Prop} (hgd : o.guard = none) (s x : Operand)
    (ho : o.op = .call { callee := .builtin .append, args := #[s, x], argTypes := #[39, 39] })
    (base base' : Nat) (v xv : Value) (L M : List ByteArray) (hs : a.eval s = v) (hx : a.eval x = xv) (hv : RowT w base v L) (hxv : RowT w base' xv M) (hlen : L.length + M.length ≤ 8000000000000) (hbase : base ≤ w.heap.size)
    (h : ∀ v' w', RowT w' base v' (L ++ M) → Only v.ownBlock.toList w w' → (v'.ownBlock = v.ownBlock ∨ v'.ownBlock = some w.heap.size) → wpListIn F n Try.prog ops Q rest (a.put o.dst v') w') (hM : M ≠ []) : wpListIn F n Try.prog ops Q (o :: rest) a w := by
  obtain ⟨i0, hi, hz0, hz1, hz2⟩ := info_partsS info_str
  have hxv' := hxv
  obtain ⟨h1, ⟨rfl, h2⟩ | ⟨g, cap, cur, rfl, h3, h4, h5, h6, h7, h8⟩⟩ := hxv'
  · exact absurd (List.length_eq_zero_iff.1 h2) hM
  · refine wpListIn_plain hgd fun K hK => ?_
    obtain ⟨v', w', hr, k2, k3, _, k5⟩ := run_append_own_at (P := Try.prog) w base 39 o.type 9 i0 (.string ⟨#[]⟩) 1 16 Try.underlying39 hi hz0 hz1 hz2 rfl (by omega) v L.length _ hv ⟨g, 0, none⟩ M.length cap (M.map Value.string) (by simp) (by
      intro j u hj
      obtain ⟨y, hy, rfl⟩ : ∃ y, M[j]? = some y ∧ u = .string y := by
        rw [List.getElem?_map] at hj
        cases hm : M[j]? with
        | none => rw [hm] at hj; cases hj
        | some y => rw [hm] at hj; exact ⟨y, rfl, (Option.some.inj hj).symm⟩
      obtain ⟨g', c', he, _, _, hc⟩ := hxv.cell hy
      cases he
      rcases j with _ | j <;> simpa [Addr.add] using hc) (by intro u hu; obtain ⟨y, _, rfl⟩ := List.mem_map.1 hu; rfl) (by unfold maxLen; omega) (by omega) hbase
    unfold Oper.wpIn
    refine ⟨by simp [Oper.about, ho, resolve, Target.leads, Sem.run_pure], ?_⟩
    rw [Oper.semAt_plain F _ _ (by rw [ho]; intro c hc'; cases hc')]
    unfold execOp
    simp only [ho, resolve, invoke, builtin, Sem.run_bind, Sem.run_pure, Result.andThen_ok, List.map_toArray, List.map_cons, List.map_nil, hs, hx, hr]
    refine hK _ _ (h v' w' ?_ (grown_only k3) k5)
    unfold RowT
    rw [List.length_append, List.map_append]
    exact k2
theorem Only.putObj {O : List Nat} {a w : World} (h : Only O a w) {l : Nat} (hl : l ∈ O ∨ a.heap.size ≤ l) (o : Obj) : Only O a (w.putObj l o) :=
  ⟨h.1.trans ⟨rfl, rfl, rfl, by simp, fun k hk => absurd hk (Nat.not_lt_zero k)⟩, fun x hx hn => by
    rw [World.putObj_heap_other (fun e => by subst e; exact hl.elim hn (fun h1 => by omega)), h.2 x hx hn]⟩
theorem RowT.at {w w' : World} {base : Nat} {v : Value} {L : List ByteArray} (h : RowT w base v L) (hk : ∀ k, v.ownBlock = some k → w'.heap[k]? = w.heap[k]?) : RowT w' base v L := by
  obtain ⟨h1, ⟨rfl, h2⟩ | ⟨g, cap, cur, rfl, h3, h4, h5, h6, h7, h8⟩⟩ := h
  · exact ⟨h1, Or.inl ⟨rfl, h2⟩⟩
  · exact ⟨h1, Or.inr ⟨g, cap, cur, rfl, h3, by rw [hk g rfl]; exact h4, h5, h6, h7, h8⟩⟩
theorem only_nil' {a b c : World} (h : Only [] a b) (k : Only [] b c) : Only [] a c := h.trans k (by simp)
/-- What a walk may turn between two rounds: the blocks S, and the block bx. -/
def Ex (S : Nat → Prop) (bx : Nat) (W W' : World) : Prop := Below 0 W W' ∧ ∀ k, k < W.heap.size → ¬ S k → k ≠ bx → W'.heap[k]? = W.heap[k]?
/-- A walk of a receiver goes through L, whatever the rounds are. -/
def Iter (S : Nat → Prop) (w : World) (rv : Value) (L : List ByteArray) : Prop :=
  ∀ (n l : Nat) (W0 : World) (J : List ByteArray → World → Prop), Only [] w W0 → (∀ pre W W', J pre W → Ex S W0.heap.size W W' → J pre W') →
    (∀ pre x W1, J pre W1 → W0.heap.size < W1.heap.size → (pre ++ [x]) <+: L → YieldAt Fence.wide (n - 1) Try.prog l #[.string x] W1 fun e W' => e = .returned (.bool true) ∧ J (pre ++ [x]) W' ∧ Kp S W0.heap.size W1 W') →
    J [] W0 → CallsIn Fence.wide n Try.prog 30 #[rv, .func (.yield l) #[] #[]] W0 fun e W' => e = .returned (.tuple #[]) ∧ J L W' ∧ KpN S W0 W'
/-- What the loop of All holds between two rounds. -/
structure Jl (n0 bx b3 l D : Nat) (rec : Loop) (pre : List ByteArray) (W : World) : Prop where
  row : ∃ v, W.heap[b3]? = some (.cells #[v] 39 (0, 0)) ∧ RowT W n0 v pre ∧ ∀ k, v.ownBlock = some k → k ≠ bx ∧ k ≠ b3 ∧ k ≠ l ∧ k ≠ D
  loop : W.heap[l]? = some (.loop rec)
  defd : W.heap[D]? = some (.deferred (some []))
theorem Jl.ex {n0 bx b3 l D : Nat} {rec : Loop} {pre : List ByteArray} {W W' : World} (h : Jl n0 bx b3 l D rec pre W) (hb : n0 ≤ b3 ∧ b3 ≠ bx ∧ n0 ≤ l ∧ l ≠ bx ∧ n0 ≤ D ∧ D ≠ bx) (he : Ex (· < n0) bx W W') : Jl n0 bx b3 l D rec pre W' := by
  obtain ⟨⟨v, h1, h2, h3⟩, h4, h5⟩ := h
  obtain ⟨a1, a2, a3, a4, a5, a6⟩ := hb
  refine ⟨⟨v, by rw [he.2 b3 (some_lt h1) (Nat.not_lt.2 a1) a2]; exact h1, h2.at (fun k hk => he.2 k (h2.lt k hk).2 (Nat.not_lt.2 (h2.lt k hk).1) (h3 k hk).1), h3⟩, by rw [he.2 l (some_lt h4) (Nat.not_lt.2 a3) a4]; exact h4, by rw [he.2 D (some_lt h5) (Nat.not_lt.2 a5) a6]; exact h5⟩
theorem kpn_only {w0 W W' : World} (h : Only [] w0 W) (k : KpN (· < w0.heap.size) W W') : Only [] w0 W' :=
  ⟨h.1.trans k.1, fun x hx hn => by rw [k.2 x hx, h.2 x hx hn]⟩
set_option maxHeartbeats 1000000 in
/-- A range over Walk whose body appends the key to a row in a variable of its own (block b3). -/
theorem range_walk {n : Nat} {g : Operand} {ps : Array Tmp} {assign body : Code} {Q : Exit → Act → World → Prop} {a : Act} {w w0 : World} {rv v0 : Value} {L : List ByteArray} {b3 : Nat}
    (hg : a.eval g = .func (.func 30) #[rv] #[]) (hps : ps.size = 1) (hI : Iter (· < w0.heap.size) w0 rv L) (ho : Only [] w0 w) (hb3 : w0.heap.size ≤ b3)
    (hbox : w.heap[b3]? = some (.cells #[v0] 39 (0, 0))) (hrow : RowT w w0.heap.size v0 []) (hv3 : ∀ k, v0.ownBlock = some k → k ≠ b3) (a₁ : ByteArray → Act)
    (hassign : ∀ (l : Nat) (x : ByteArray) (W : World) (K : Act → World → Prop), K (a₁ x) W →
      assign.wpIn (Fence.wide.inRound l) (n - 1 - 1) Try.prog (Exit.then K (fun _ _ _ => False)) { tmps := (ps.zip #[.string x]).foldl (fun t (p, v) => t.setIfInBounds p v) a.tmps, defers := [] } W)
    (hbody : ∀ (l : Nat) (pre : List ByteArray) (x : ByteArray) (v : Value) (W : World), W.heap[b3]? = some (.cells #[v] 39 (0, 0)) → RowT W w0.heap.size v pre → (∀ k, v.ownBlock = some k → k ≠ b3) → w0.heap.size ≤ W.heap.size → (pre ++ [x]).length ≤ L.length →
      body.wpIn (Fence.wide.inRound l) (n - 1 - 1) Try.prog (fun e _ W' => e = .normal ∧ ∃ v', W'.heap[b3]? = some (.cells #[v'] 39 (0, 0)) ∧ RowT W' w0.heap.size v' (pre ++ [x]) ∧ (∀ k, v'.ownBlock = some k → v.ownBlock = some k ∨ W.heap.size ≤ k) ∧ Only (b3 :: v.ownBlock.toList) W W') (a₁ x) W)
    (hdone : ∀ (D : Nat) (v : Value) (W : World), w.heap.size ≤ D → W.heap[D]? = some (.deferred (some [])) → W.heap[b3]? = some (.cells #[v] 39 (0, 0)) → RowT W w0.heap.size v L → (∀ k, v.ownBlock = some k → k ≠ D) → Only [] w0 W → Q .normal { a with defers := { target := .collected D, args := #[] } :: a.defers } W) :
    (Code.rangeFunc g ps assign body).wpIn Fence.wide n Try.prog Q a w := by
  refine wpIn_rangeFunc ?_
  intro fn hfn
  obtain ⟨rec, hrec⟩ : ∃ rec : LoopState → Loop, rec = fun st => { state := st, pending := Option.none, fn, tmps := a.tmps, params := ps, assign, body, defers := w.heap.size } := ⟨_, rfl⟩
  obtain ⟨W2, hW2⟩ : ∃ W2, W2 = (w.alloc (.deferred (some []))).alloc (.loop (rec .ready)) := ⟨_, rfl⟩
  obtain ⟨D, hD⟩ : ∃ D, D = w.heap.size := ⟨_, rfl⟩
  obtain ⟨l, hl⟩ : ∃ l, l = w.heap.size + 1 := ⟨_, rfl⟩
  have hs2 : W2.heap.size = w.heap.size + 2 := by rw [hW2]; simp
  have hL2 : W2.heap[l]? = some (.loop (rec .ready)) := by
    rw [hW2, hl]
    have := World.alloc_heap_new (w.alloc (.deferred (some []))) (.loop (rec .ready))
    rwa [World.size_alloc] at this
  have hD2 : W2.heap[D]? = some (.deferred (some [])) := by
    rw [hW2, hD]
    exact (Below.heap_alloc _ _ _ (by simp)).trans (World.alloc_heap_new w _)
  have o2 : Only [] w W2 := by rw [hW2]; exact ((Only.refl [] w).alloc _).alloc _
  have hws := ho.size
  have hb3l : b3 < w.heap.size := some_lt hbox
  have hJ0 : Jl w0.heap.size W2.heap.size b3 l D (rec .ready) [] W2 :=
    ⟨⟨v0, o2.keep hbox (by simp), hrow.same o2, fun k hk => by
      have h1 := hv3 k hk
      have h2 := (hrow.lt k hk).2
      refine ⟨by omega, h1, by omega, by omega⟩⟩, hL2, hD2⟩
  have hbnd : w0.heap.size ≤ b3 ∧ b3 ≠ W2.heap.size ∧ w0.heap.size ≤ l ∧ l ≠ W2.heap.size ∧ w0.heap.size ≤ D ∧ D ≠ W2.heap.size := by omega
  refine ⟨l, [{ target := .collected w.heap.size, args := #[] }], W2, { target := .fn (.func 30) #[], args := #[rv, .func (.yield l) #[] #[]] }, W2, 30,
    #[rv, .func (.yield l) #[] #[]], W2, ?_, ?_, fun _ _ => trivial, ?_, fun h => (by cases h), ?_⟩
  · rw [hW2, hl, hrec]
    exact run_enterLoop_outer _ _ _ _ _
  · simp only [resolve, hg]
    simp [go_sem]
  · have eg := enters_of Try.func30 (by kernel_rfl) rfl
    simp [invoke, go_sem, eg _ _]
  refine (hI (n - 1) l W2 (Jl w0.heap.size W2.heap.size b3 l D (rec .ready)) (only_nil' ho o2) (fun pre W W' hj he => hj.ex hbnd he) ?_ hJ0).mono ?_
  · rintro pre x W ⟨⟨v, h1, h2, h3⟩, h4, h5⟩ hWs hlen
    have hlt : l < W.heap.size := some_lt h4
    have hy := run_yield (P := Try.prog) (args := #[.string x]) h4 (by rw [hrec]; simp [hps])
    rw [hrec] at hy
    have hbeg := run_beginRound (P := Try.prog) h4 (by rw [hrec])
    obtain ⟨rb, hrb⟩ : ∃ rb : Loop, rb = { rec .ready with state := .busy } := ⟨_, rfl⟩
    rw [← hrb] at hbeg
    refine ⟨fn, _, assign, body, hy, roundIn_of_wpIn hfn (hassign _ x W _ ⟨_, hbeg, ?_⟩)⟩
    have q1 : Only [l] W (W.putObj l (.loop rb)) := (Only.refl _ W).putObj (Or.inl (by simp)) _
    have q2 : (W.putObj l (.loop rb)).heap[l]? = some (.loop rb) := World.putObj_heap_same hlt
    have hWz : (W.putObj l (.loop rb)).heap.size = W.heap.size := by simp
    refine wpIn_mono (hbody l pre x v _ (q1.keep h1 (by simp; omega)) (h2.at (fun k hk => World.putObj_heap_other (h3 k hk).2.2.1)) (fun k hk => (h3 k hk).2.1) (by simp; omega) hlen.length_le) ?_
    rintro e a3 W3 ⟨rfl, v', k1, k2, k3, k4⟩
    have hlv : l ∉ b3 :: v.ownBlock.toList := by
      intro hm
      rcases List.mem_cons.1 hm with hm | hm
      · omega
      · rw [Option.mem_toList] at hm
        exact (h3 l hm).2.2.1 rfl
    have q3 := k4.keep q2 hlv
    have q4 := run_endRound (P := Try.prog) Option.none q3
    have hrr : ({ rb with state := LoopState.ready, pending := Option.none } : Loop) = rec .ready := by rw [hrb, hrec]
    rw [show (if (Option.none : Option Code).isNone then LoopState.ready else LoopState.done) = LoopState.ready from rfl, hrr] at q4
    have q5 : Only (l :: b3 :: v.ownBlock.toList) W (W3.putObj l (.loop (rec .ready))) := ((q1.mono (by simp)).trans k4 (fun x hx => Or.inl (List.mem_cons_of_mem _ hx))).putObj (Or.inl (by simp)) _
    have hle : l < W3.heap.size := by have := k4.size; omega
    refine ⟨_, _, q4, rfl, ⟨⟨v', ?_, ?_, ?_⟩, World.putObj_heap_same hle, ?_⟩, q5.1, ?_⟩
    · rw [World.putObj_heap_other (by omega)]
      exact k1
    · refine k2.at (fun k hk => World.putObj_heap_other (fun e => ?_))
      rcases k3 k hk with e1 | e1
      · exact (h3 k e1).2.2.1 e
      · omega
    · intro k hk
      rcases k3 k hk with e1 | e1
      · exact h3 k e1
      · refine ⟨by omega, by omega, by omega, by omega⟩
    · refine q5.keep h5 (fun hm => ?_)
      rcases List.mem_cons.1 hm with hm | hm
      · omega
      · rcases List.mem_cons.1 hm with hm | hm
        · omega
        · rw [Option.mem_toList] at hm
          exact (h3 D hm).2.2.2 rfl
    · intro k hk hkk
      refine q5.2 k hk (fun hm => ?_)
      rcases List.mem_cons.1 hm with hm | hm
      · omega
      · rcases List.mem_cons.1 hm with hm | hm
        · omega
        · rw [Option.mem_toList] at hm
          rcases hkk with h6 | h6
          · have := (h2.lt k hm).1
            omega
          · exact (h3 k hm).1 h6
  · rintro e W3 ⟨rfl, ⟨⟨v, h1, h2, h3⟩, h4, h5⟩, hk⟩
    have q1 := run_endLoop (P := Try.prog) h4 (by rw [hrec]; simp)
    have hp : (rec .ready).pending = Option.none := by rw [hrec]
    rw [hp] at q1
    have o3 : Only [] w0 W3 := kpn_only (only_nil' ho o2) hk
    rw [← hD]
    refine ⟨Option.none, _, q1, hdone D v _ (by omega) ?_ ?_ (h2.at (fun k hk => World.putObj_heap_other (h3 k hk).2.2.1)) (fun k hk => (h3 k hk).2.2.2) (o3.putObj (Or.inr (by omega)) _)⟩
    · rw [World.putObj_heap_other (by omega)]
      exact h5
    · rw [World.putObj_heap_other (by omega)]
      exact h1
end Go.Proofs.Ytpbmgaipeofpaaa
