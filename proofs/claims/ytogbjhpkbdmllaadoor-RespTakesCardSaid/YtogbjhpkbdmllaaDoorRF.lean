/-
  A row of replies that a call makes itself, one reply after the other. No premise.
-/
import Derived.Test.YtogbjhpkbdmllaaDoorRE
import Derived.Maps.AppendAt
import Derived.Great.BuildSlice
namespace Go.Proofs.YtogbjhpkbdmllaaDoor
open Go.RowKit Rp Dec

theorem flat_get (css : List (List Value)) (h : ∀ c ∈ css, c.length = 4) : ∀ (i j : Nat) (cs : List Value), css[i]? = some cs → j < 4 → css.flatten[i * 4 + j]? = cs[j]? := by
  induction css with
  | nil => intro i j cs hi; simp at hi
  | cons c css ih =>
    intro i j cs hi hj
    have hc := h c (by simp)
    cases i with
    | zero =>
      simp at hi
      subst hi
      rw [List.flatten_cons, List.getElem?_append_left (by omega), Nat.zero_mul, Nat.zero_add]
    | succ i =>
      rw [List.flatten_cons, List.getElem?_append_right (by omega), ← ih (fun c hc => h c (by simp [hc])) i j cs (by simpa using hi) hj]
      congr 1
      omega
/-- A row that is the call's own, of replies whose own rows lie elsewhere. -/
def Row (wr : World) (base k : Nat) (v : Value) (ys : List (Rep k)) : Prop :=
  ∃ css : List (List Value), wr.ownsRow base 24 4 v ys.length css.flatten ∧ css.length = ys.length ∧ (∀ c ∈ css, c.length = 4) ∧
    ∀ (i : Nat) y, ys[i]? = some y → ∃ cs, css[i]? = some cs ∧ RAt wr (fun b => base ≤ b ∧ v.ownBlock ≠ some b) k y cs
section
variable {wr w' : World} {base k : Nat} {v v' : Value} {ys : List (Rep k)} {y : Rep k} {cs : List Value}
theorem RAt.len : ∀ {k : Nat} {y : Rep k} {ok : Nat → Prop}, RAt wr ok k y cs → cs.length = 4 ∧ ∀ u ∈ cs, u.oneCell' = true
  | 0, y, _, _ => y.elim
  | k + 1, y, _, h => by
    obtain ⟨b, A, cap, rfl, _⟩ := h
    refine ⟨rfl, fun u hu => ?_⟩
    simp at hu
    rcases hu with rfl | rfl | rfl | rfl <;> rfl
theorem Row.none_ (wr : World) (base k : Nat) : Row wr base k (.slice none 0 0) [] := ⟨[], World.ownsRow_nil _ _ _ _, rfl, by simp, fun i y h => by simp at h⟩
theorem grown_of_below {W W' : World} (h : Below W.heap.size W W') (r : Option Nat) : W.grownBy W' r := ⟨h.os, h.tape, h.output, h.size, fun i hi _ => h.block i hi⟩
theorem Row.below (h : Row wr base k v ys) (hb : Below wr.heap.size wr w') : Row w' base k v ys := by
  obtain ⟨css, h1, h2, h3, h4⟩ := h
  refine ⟨css, h1.kept (row := some w'.heap.size) (grown_of_below hb _) ?_, h2, h3, fun i y hy => ?_⟩
  · right
    intro e
    have := (h1.lt _ e).2
    have := hb.size
    omega
  · obtain ⟨cs, hc, hr⟩ := h4 i y hy
    exact ⟨cs, hc, hr.on hb⟩
/-- One reply more. -/
theorem Row.push {css : List (List Value)} {o : Obj} (h2 : css.length = ys.length) (h3 : ∀ c ∈ css, c.length = 4)
    (h4 : ∀ (i : Nat) y, ys[i]? = some y → ∃ cs, css[i]? = some cs ∧ RAt wr (fun b => base ≤ b ∧ v.ownBlock ≠ some b) k y cs)
    (hy : RAt wr (fun b => base ≤ b ∧ v.ownBlock ≠ some b) k y cs) (hown : w'.ownsRow base 24 4 v' (ys.length + 1) (css.flatten ++ cs)) (hg : (wr.alloc o).grownBy w' v.ownBlock)
    (hloc : v'.ownBlock = v.ownBlock ∨ v'.ownBlock = some (wr.alloc o).heap.size) : Row w' base k v' (ys ++ [y]) := by
  have hkeep : ∀ {z : Rep k} {ds : List Value}, RAt wr (fun b => base ≤ b ∧ v.ownBlock ≠ some b) k z ds → RAt w' (fun b => base ≤ b ∧ v'.ownBlock ≠ some b) k z ds := by
    intro z ds hz
    have hblk : ∀ b, b < wr.heap.size → v.ownBlock ≠ some b → w'.heap[b]? = wr.heap[b]? := by
      intro b hb hne
      rw [hg.block b (by simp; omega) (fun e => hne e.symm), Lib.alloc_old wr o b hb]
    refine hz.keep (fun p hp hl => World.cell?_of_block (hblk _ hl hp.2)) (by have := hg.size; simp at this; omega) (fun b hb hl => ⟨hb.1, ?_⟩)
    rcases hloc with e | e
    · rw [e]; exact hb.2
    · rw [e]; intro e2; have := Option.some.inj e2; simp at this; omega
  refine ⟨css ++ [cs], by simpa using hown, by simp [h2], ?_, fun i z hz => ?_⟩
  · intro c hc
    rcases List.mem_append.1 hc with hc | hc
    · exact h3 c hc
    · rw [List.mem_singleton.1 hc]; exact hy.len.1
  · by_cases hi : i < ys.length
    · rw [List.getElem?_append_left hi] at hz
      obtain ⟨ds, hd, hr⟩ := h4 i z hz
      exact ⟨ds, by rw [List.getElem?_append_left (by omega)]; exact hd, hkeep hr⟩
    · have hl : i < (ys ++ [y]).length := (List.getElem?_eq_some_iff.1 hz).1
      simp at hl
      obtain rfl : i = ys.length := by omega
      rw [List.getElem?_append_right (Nat.le_refl _)] at hz
      simp at hz
      subst hz
      exact ⟨cs, by rw [List.getElem?_append_right (by omega), h2]; simp, hkeep hy⟩
/-- What a row of one's own reads as. -/
theorem Row.sub (h : Row wr base k v ys) : ∃ A cap, v = .slice A ys.length cap ∧ ys.length ≤ cap ∧ SubAt wr (fun b => base ≤ b) (RAt wr (fun b => base ≤ b) k) A ys := by
  obtain ⟨css, h1, h2, h3, h4⟩ := h
  rcases Nat.eq_zero_or_pos ys.length with h0 | h0
  · have hnil := List.eq_nil_of_length_eq_zero h0
    rcases h1.2 with ⟨hv, _⟩ | ⟨g, cap, _, hv, _, _, hle, _⟩
    · exact ⟨none, 0, by rw [hv, h0], by omega, fun i y hy => by rw [hnil] at hy; simp at hy⟩
    · exact ⟨some ⟨g, 0, none⟩, cap, hv, hle, fun i y hy => by rw [hnil] at hy; simp at hy⟩
  · rcases h1.2 with ⟨_, hz⟩ | ⟨g, cap, cur, hv, hbg, hg, hle, _⟩
    · omega
    refine ⟨some ⟨g, 0, none⟩, cap, hv, hle, fun i y hy => ?_⟩
    have hob : v.ownBlock = some g := by rw [hv]; rfl
    have hgl := (h1.lt g hob).2
    obtain ⟨ds, hd, hr⟩ := h4 i y hy
    obtain ⟨hlen, _⟩ := hr.len
    have hcell : ∀ j u, ds[j]? = some u → wr.cell? ⟨g, i * 4 + j, none⟩ = some u := by
      intro j u hu
      have hj : j < 4 := by have := (List.getElem?_eq_some_iff.1 hu).1; omega
      have := h1.cells hob (i * 4 + j) u (by rw [flat_get css h3 i j ds hd hj]; exact hu)
      have e : (⟨g, 0, none⟩ : Addr).add (i * 4 + j) = ⟨g, i * 4 + j, none⟩ := by unfold Addr.add; split <;> simp_all
      rwa [e] at this
    match ds, hlen with
    | [c0, c1, c2, c3], _ =>
      have e : (⟨g, 0, none⟩ : Addr).add (i * 4) = ⟨g, i * 4, none⟩ := by unfold Addr.add; split <;> simp_all
      refine ⟨⟨g, 0, none⟩, c0, c1, c2, c3, rfl, hbg, hgl, ?_, ?_, ?_, ?_, hr.weaken fun b hb _ => hb.1⟩
      · rw [e]; exact hcell 0 c0 rfl
      · rw [e]; exact hcell 1 c1 rfl
      · rw [e]; exact hcell 2 c2 rfl
      · rw [e]; exact hcell 3 c3 rfl
end
theorem reply_info : (Tryd.prog.info? 24).map (fun i => (i.zero, i.size, i.bytes)) = some (some (.agg #[.int .i64 0, .int .i64 0, .string ⟨#[]⟩, .slice none 0 0]), 4, 56) := by kernel_rfl
theorem fill_reply {i0 : TypeInfo} (hz : i0.size = 4) (cs : Array Value) (hc : cs.size = 4) :
    Instr.fill (fun i => some (i * i0.size, i0.size)) ((Array.range (1 * i0.size)).map ((Value.agg #[.int .i64 0, .int .i64 0, .string ⟨#[]⟩, .slice none 0 0]).cells[· % (Value.agg #[.int .i64 0, .int .i64 0, .string ⟨#[]⟩, .slice none 0 0]).cells.size]!)) [(0, .agg cs)] = some cs := by
  rw [hz]
  have h := Great.fill_whole (s := 4) (by decide) [Value.agg cs] ((Array.range (1 * 4)).map ((Value.agg #[.int .i64 0, .int .i64 0, .string ⟨#[]⟩, .slice none 0 0]).cells[· % (Value.agg #[.int .i64 0, .int .i64 0, .string ⟨#[]⟩, .slice none 0 0]).cells.size]!)) (by intro v hv; rw [List.mem_singleton.1 hv]; exact hc) (by simp)
  have e : ([Value.agg cs].flatMap fun v => v.cells.toList).toArray = cs := by simp [Value.cells]
  rw [e] at h
  exact h
theorem wpList_reply {ops : Array Oper} {rest : List Oper} {o : Oper} {a : Act} {w : World} {Q : Exit → Act → World → Prop} {d : Option Tmp} (x : Operand) (hg : o.guard = none) (ho : o.op = .buildSlice 22 1 #[(0, x)]) (hd : o.dst = d)
    (cs : Array Value) (hc : cs.size = 4) (hx : a.eval x = .agg cs)
    (h : wpList Tryd.prog ops Q rest (a.put d (.slice (some ⟨w.heap.size, 0, none⟩) 1 1)) (w.alloc (.cells cs 24))) : wpList Tryd.prog ops Q (o :: rest) a w := by
  subst hd
  obtain ⟨i0, hi, hz0, hz1, hz2⟩ := info_parts reply_info
  refine wpList_buildSlice hg 22 24 1 #[(0, x)] ho cs i0 _ Tryd.underlying22 hi hz0 (by rw [hz1]; decide) (by rw [hz1]; decide) ?_ h
  have e : (#[(0, x)].map fun (q : Nat × Operand) => (q.1, a.eval q.2)).toList = [(0, .agg cs)] := by simp [hx]
  rw [show (#[(0, x)].map fun (i, x) => (i, a.eval x)).toList = [(0, .agg cs)] from e]
  exact fill_reply hz1 cs hc
theorem new_cells (w : World) (cs : List Value) {t : TypeId} : ∀ j u, cs[j]? = some u → (w.alloc (.cells cs.toArray t)).cell? ((⟨w.heap.size, 0, none⟩ : Addr).add j) = some u := by
  intro j u hu
  have hadd : (⟨w.heap.size, 0, none⟩ : Addr).add j = ⟨w.heap.size, j, none⟩ := by unfold Addr.add; split <;> simp_all
  rw [hadd, Lib.cell_of_heap (heap_alloc_new w (.cells cs.toArray t)) j]
  simpa using hu

/-! ### The readers' faults and lengths -/
theorem takeF_le {k w : Nat} (hw : w + k = 9) {s : List UInt8} {y : Rep k} {n : Nat} (h : takeF k s = .inr (y, n)) : n ≤ s.length := by
  obtain ⟨bs, u, rfl, rfl, _⟩ := takeF_puts k w hw s y n h
  simp
theorem listGo_err {α : Type} {f : List UInt8 → Sum Int (α × Nat)} (hf : ∀ s x, f s = .inl x → x ≠ 0) (c : Nat) : ∀ s x, listGo f c s = .inl x → x ≠ 0 := by
  induction c with
  | zero => intro s x h; cases h
  | succ c ih =>
    intro s x h
    rw [listGo] at h
    cases h1 : f s with
    | inl e => rw [h1] at h; simp at h; subst h; exact hf _ _ h1
    | inr p =>
      rw [h1] at h
      simp only [] at h
      cases h2 : listGo f c (s.drop p.2) with
      | inl e => rw [h2] at h; simp at h; subst h; exact ih _ _ h2
      | inr q => rw [h2] at h; cases h
theorem line_err {α : Type} {kind : Int} {s : List UInt8} {x : Int} (h : (lineN kind s : Sum Int (RNode α × Nat)) = .inl x) : x ≠ 0 := by
  unfold lineN at h
  have key : ∀ (l pre : List UInt8) (x : Int), lineGo pre l = .inl x → x ≠ 0 := by
    intro l
    induction l with
    | nil => intro pre x h; simp [lineGo] at h; rw [← h]; decide
    | cons c l ih =>
      intro pre x h
      rw [lineGo] at h
      split at h
      · split at h
        · cases h
        · rename_i hz; simp at h; rw [← h]; exact hz
      · exact ih _ _ h
  cases hq : lineGo [] s with
  | inl e => rw [hq] at h; simp at h; subst h; exact key _ _ _ hq
  | inr q => rw [hq] at h; cases h
theorem sign_err {α : Type} {f : List UInt8 → Sum Int (α × Nat)} (hf : ∀ s x, f s = .inl x → x ≠ 0) {deep : Bool} {c : UInt8} {t : List UInt8} {x : Int} (h : signN deep f c t = .inl x) : x ≠ 0 := by
  unfold signN at h
  have d4 : ∀ {ab : Int}, ab ≠ 0 → ∀ {lo hi : Int} {l : List UInt8} {e : Int}, decGo lo hi ab [] l = .inl e → e ≠ 0 := by
    intro ab hab lo hi l e he
    rcases dec_err l [] e he with rfl | rfl | rfl
    · decide
    · decide
    · exact hab
  split at h
  · exact line_err h
  · split at h
    · exact line_err h
    · split at h
      · unfold numN at h
        split at h
        · rename_i e; simp at h; subst h; exact d4 (by decide) e
        · cases h
      · split at h
        · unfold bulkN at h
          split at h
          · rename_i e; simp at h; subst h; exact d4 (by decide) e
          · unfold bodyN at h
            split at h
            · cases h
            · split at h
              · simp at h; rw [← h]; decide
              · split at h
                · cases h
                · rename_i hz; simp only [Sum.inl.injEq] at h; rw [← h]; exact hz
        · split at h
          · unfold listN at h
            split at h
            · simp at h; rw [← h]; decide
            · split at h
              · rename_i e; simp at h; subst h; exact d4 (by decide) e
              · unfold subsN at h
                split at h
                · cases h
                · split at h
                  · rename_i e; simp at h; subst h; exact listGo_err hf _ _ _ e
                  · cases h
          · simp at h; rw [← h]; decide
theorem plus1_inl {α : Type} {r : Sum Int (α × Nat)} {x : Int} (h : plus1 r = .inl x) : r = .inl x := by
  unfold plus1 at h
  split at h
  · simpa using h
  · cases h
theorem takeF_err (k : Nat) : ∀ s x, takeF k s = .inl x → x ≠ 0 := by
  induction k with
  | zero => intro s x h; simp [takeF] at h; rw [← h]; decide
  | succ k ih =>
    intro s x h
    change (oneN (k == 0) (takeF k) s : Sum Int (RNode (Rep k) × Nat)) = .inl x at h
    cases s with
    | nil => simp [oneN] at h; rw [← h]; decide
    | cons c t => exact sign_err ih (plus1_inl h)
end Go.Proofs.YtogbjhpkbdmllaaDoor
