/-
  The walk down the levels. Premises: a list as it lies; what is ahead is told by a function that tells so of the first k pairs alone.
-/
import Derived.Test.YtijfipghoilpeaaDoorC
import Derived.Deep.CutBlock
import Derived.Deep.RegionHeld3
namespace Go.Proofs.YtijfipghoilpeaaDoor
open Go.RowKit

theorem cell_keep {a b : World} (h : Only [] a b) {p : Addr} {v : Value} (hc : a.cell? p = some v) : b.cell? p = some v := by
  rw [World.cell?_of_block (w := a) (h.2 _ (cell_lt hc) List.not_mem_nil)]
  exact hc
/-- A list as it lies. -/
structure Lst (w : World) (D : Nat) (sd c : Int) (ns : List Nd) : Prop where
  base : Base w D sd c ns
  lv : ∀ L, L < 16 → LvAt w D ns L
theorem Lst.keep {w w' : World} {D : Nat} {sd c : Int} {ns : List Nd} (h : Lst w D sd c ns) {O : List Nat} (ho : Only O w w') (hd : ∀ b ∈ blks D ns, b ∉ O) : Lst w' D sd c ns :=
  ⟨h.base.keep ho hd, fun L hL => h.base.lv ho (fun b hb => hd b (wrs_blks hb)) (h.lv L hL)⟩
theorem Lst.none' {w w' : World} {D : Nat} {sd c : Int} {ns : List Nd} (h : Lst w D sd c ns) (ho : Only [] w w') : Lst w' D sd c ns := h.keep ho (fun _ _ => List.not_mem_nil)
def zeroC (sd : Int) : Array Value := #[.int .u64 sd, .pointer none, .int .i64 0, .pointer none, .int .i64 0, .pointer none, .int .i64 0, .pointer none, .int .i64 0, .pointer none, .int .i64 0, .pointer none, .int .i64 0, .pointer none, .int .i64 0, .pointer none, .int .i64 0, .pointer none, .int .i64 0, .pointer none, .int .i64 0, .pointer none, .int .i64 0, .pointer none, .int .i64 0, .pointer none, .int .i64 0, .pointer none, .int .i64 0, .pointer none, .int .i64 0, .pointer none, .int .i64 0, .int .i64 0]
theorem zeroC_cell (sd : Int) : ∀ L, L < 16 → (zeroC sd)[1 + 2 * L]? = some (.pointer none) ∧ (zeroC sd)[1 + 2 * L + 1]? = some (.int .i64 0) := by
  intro L hL
  rcases L with _ | _ | _ | _ | _ | _ | _ | _ | _ | _ | _ | _ | _ | _ | _ | _ | L
  all_goals first | exact ⟨rfl, rfl⟩ | omega
/-- An empty list. -/
theorem lst_zero (w : World) (sd : Int) : Lst (w.alloc (.cells (zeroC sd) 55)) w.heap.size sd 0 [] := by
  have hh := heap_alloc_new w (.cells (zeroC sd) 55)
  refine ⟨⟨⟨zeroC sd, hh, rfl, rfl, rfl⟩, fun n hn => by simp at hn, fun n hn => by simp at hn, fun n hn => by simp at hn, List.nodup_nil, fun n hn => by simp at hn⟩, fun L hL q b o hq => ?_⟩
  obtain ⟨h1, h2⟩ := zeroC_cell sd L hL
  rcases hq with ⟨rfl, rfl, rfl⟩ | ⟨n, hn, _⟩
  · constructor
    · simp only [World.cell?, hh]; simpa [lnk] using h1
    · simp only [World.cell?, hh]; simpa [lnk] using h2
  · simp at hn

def path0 : Array Value := #[.slice none 0 0, .int .i64 0, .slice none 0 0, .int .i64 0, .slice none 0 0, .int .i64 0, .slice none 0 0, .int .i64 0, .slice none 0 0, .int .i64 0, .slice none 0 0, .int .i64 0, .slice none 0 0, .int .i64 0, .slice none 0 0, .int .i64 0, .slice none 0 0, .int .i64 0, .slice none 0 0, .int .i64 0, .slice none 0 0, .int .i64 0, .slice none 0 0, .int .i64 0, .slice none 0 0, .int .i64 0, .slice none 0 0, .int .i64 0, .slice none 0 0, .int .i64 0, .slice none 0 0, .int .i64 0]
theorem run_lk (b o m L : Nat) (x : Int) (hx : x = (L : Int)) (hL : L < m) (w : World) : Sem.run Tryd.prog (Instr.indexAt 57 (.slice (some ⟨b, o, none⟩) m m) (.int .i64 x)) w = .ok (.pointer (some ⟨b, o + L * 2, none⟩)) w := by
  subst hx
  go_simp

theorem run_pa (P L : Nat) (x : Int) (hx : x = (L : Int)) (hL : L < 16) (w : World) : Sem.run Tryd.prog (Instr.indexAt 61 (.pointer (some ⟨P, 0, none⟩)) (.int .i64 x)) w = .ok (.pointer (some ⟨P, L * 2, none⟩)) w := by
  subst hx
  go_simp
  omega
/-- On the way down: j levels are done, q pairs are gone past. -/
structure Dn (w W : World) (R P A D : Nat) (sd c : Int) (ns : List Nd) (k j q : Nat) : Prop where
  only : Only [] w W
  lst : Lst W D sd c ns
  res : ∃ C, W.heap[R]? = some (.cells C 61 (0, 0)) ∧ C.size = 32
  pth : ∃ C, W.heap[P]? = some (.cells C 61 (0, 0)) ∧ C.size = 32 ∧ ∀ L, 16 - j ≤ L → L < 16 → C[2 * L]? = some (lkV D ns (own ns L k)) ∧ C[2 * L + 1]? = some (.int .i64 ((own ns L k : Nat) : Int))
  at_ : W.heap[A]? = some (.cells #[lkV D ns q, .int .i64 (q : Int)] 59 (0, 0))
  lo : w.heap.size ≤ R ∧ R < P ∧ P < A
  sep : ∀ b ∈ blks D ns, b ≠ R ∧ b ≠ P ∧ b ≠ A
theorem own_top {ns : List Nd} (h : ∀ n ∈ ns, 1 ≤ n.h ∧ n.h ≤ 16) (k : Nat) : own ns 16 k = 0 :=
  own_eq (Nat.zero_le k) (Or.inl rfl) (fun _ n _ _ hn => by have := h n (List.mem_of_getElem? hn); omega)
theorem own_bot {ns : List Nd} (h : ∀ n ∈ ns, 1 ≤ n.h ∧ n.h ≤ 16) {k : Nat} (hk : k ≤ ns.length) : own ns 0 k = k := by
  refine own_eq (Nat.le_refl k) ?_ (fun i n h1 h2 _ => by omega)
  rcases Nat.eq_zero_or_pos k with h0 | h0
  · exact Or.inl h0
  · have hlt : k - 1 < ns.length := by omega
    exact Or.inr ⟨ns[k - 1], List.getElem?_eq_getElem hlt, h0, by have := h _ (List.getElem_mem hlt); omega⟩
/-- Behind a level's links are read: N holds where the level leads from q on. -/
structure Dl (w W : World) (R P A N D : Nat) (sd c : Int) (ns : List Nd) (k j L q : Nat) : Prop where
  dn : Dn w W R P A D sd c ns k j q
  nx : W.heap[N]? = some (.cells #[.pointer (lnk L (ns.drop q)).1, .int .i64 (((lnk L (ns.drop q)).2 : Nat) : Int)] 52 (0, 0))
  ow : ∃ b o m, Ow D ns L q b o ∧ lkb D ns q = (b, o, m) ∧ L < m
  le : q ≤ k
  lt : A < N
  sn : ∀ b ∈ blks D ns, b ≠ N
theorem Dl.cells {w W : World} {R P A N D : Nat} {sd c : Int} {ns : List Nd} {k j L q : Nat} (h : Dl w W R P A N D sd c ns k j L q) :
    W.cell? ⟨N, 0, none⟩ = some (.pointer (lnk L (ns.drop q)).1) ∧ W.cell? ⟨N, 1, none⟩ = some (.int .i64 (((lnk L (ns.drop q)).2 : Nat) : Int)) ∧ W.cell? ⟨A, 1, none⟩ = some (.int .i64 (q : Int)) ∧ W.cell? ⟨A, 0, none⟩ = some (lkV D ns q) := by
  have h1 := h.nx
  have h2 := h.dn.at_
  exact ⟨Lib.cell_of_heap h1 0, Lib.cell_of_heap h1 1, Lib.cell_of_heap h2 1, Lib.cell_of_heap h2 0⟩
theorem Dn.same {w W W' : World} {R P A D : Nat} {sd c : Int} {ns : List Nd} {k j q : Nat} (h : Dn w W R P A D sd c ns k j q) (ho : Only [] W W') : Dn w W' R P A D sd c ns k j q := by
  obtain ⟨C, c1, c2⟩ := h.res
  obtain ⟨B, b1, b2⟩ := h.pth
  exact ⟨h.only.trans ho (by simp), h.lst.none' ho, ⟨C, ho.keep c1 List.not_mem_nil, c2⟩, ⟨B, ho.keep b1 List.not_mem_nil, b2⟩, ho.keep h.at_ List.not_mem_nil, h.lo, h.sep⟩
theorem Dl.same {w W W' : World} {R P A N D : Nat} {sd c : Int} {ns : List Nd} {k j L q : Nat} (h : Dl w W R P A N D sd c ns k j L q) (ho : Only [] W W') : Dl w W' R P A N D sd c ns k j L q :=
  ⟨h.dn.same ho, ho.keep h.nx List.not_mem_nil, h.ow, h.le, h.lt, h.sn⟩
theorem ow_down {D : Nat} {ns : List Nd} {L q b o : Nat} (h : Ow D ns (L + 1) q b o) : Ow D ns L q b o := by
  rcases h with h | ⟨n, h1, h2, h3, h4⟩
  · exact Or.inl h
  · exact Or.inr ⟨n, h1, h2, by omega, h4⟩
theorem Dl.start {w W : World} {R P A D : Nat} {sd c : Int} {ns : List Nd} {k j L : Nat} (h : Dn w W R P A D sd c ns k j (own ns (16 - j) k)) (hj : j < 16) (hL : L = 15 - j) :
    ∃ b o m, lkb D ns (own ns (16 - j) k) = (b, o, m) ∧ L < m ∧ W.cell? ⟨A, 0, none⟩ = some (.slice (some ⟨b, o, none⟩) m m) ∧ W.cell? ⟨b, o + L * 2, none⟩ = some (.pointer (lnk L (ns.drop (own ns (16 - j) k))).1) ∧ W.cell? ⟨b, o + L * 2 + 1, none⟩ = some (.int .i64 (((lnk L (ns.drop (own ns (16 - j) k))).2 : Nat) : Int)) ∧
      Dl w (W.alloc (.cells #[.pointer (lnk L (ns.drop (own ns (16 - j) k))).1, .int .i64 (((lnk L (ns.drop (own ns (16 - j) k))).2 : Nat) : Int)] 52)) R P A W.heap.size D sd c ns k j L (own ns (16 - j) k) := by
  rw [show 16 - j = L + 1 by omega] at *
  obtain ⟨b, o, ho⟩ := ow_own D ns (L + 1) k
  have ho := ow_down ho
  obtain ⟨m, hm, hlm⟩ := ow_lkb ho
  have hlm := hlm (by omega)
  obtain ⟨l1, l2⟩ := h.lst.lv L (by omega) _ _ _ ho
  have hA := h.at_
  have ha0 : W.cell? ⟨A, 0, none⟩ = some (lkV D ns (own ns (L + 1) k)) := Lib.cell_of_heap hA 0
  have hv : lkV D ns (own ns (L + 1) k) = .slice (some ⟨b, o, none⟩) m m := by unfold lkV; rw [hm]
  refine ⟨b, o, m, hm, hlm, by rw [ha0, hv], by rw [Nat.mul_comm]; exact l1, by rw [Nat.mul_comm]; exact l2, h.same ((Only.refl [] W).alloc _), heap_alloc_new W _, ⟨b, o, m, ho, hm, hlm⟩, own_le ns (L + 1) k, some_lt hA, fun x hx e => by have := h.lst.base.lt hx; omega⟩
theorem Dl.path {w W : World} {R P A N D : Nat} {sd c : Int} {ns : List Nd} {k j L q : Nat} (h : Dl w W R P A N D sd c ns k j L q) (hL : L < 16) (n : Nat) :
    (∃ v, W.cell? ⟨P, L * 2, none⟩ = some v) ∧ (∀ v, ∃ u, ((W.drewN n).setCell ⟨P, L * 2, none⟩ v).cell? ⟨P, L * 2 + 1, none⟩ = some u) ∧ (∀ i, W.frozen? ⟨P, i, none⟩ = false) ∧ (∀ v i, ((W.drewN n).setCell ⟨P, L * 2, none⟩ v).frozen? ⟨P, i, none⟩ = false) := by
  obtain ⟨C, c1, c2, _⟩ := h.dn.pth
  have c1' : (W.drewN n).heap[P]? = some (.cells C 61 (0, 0)) := c1
  have h1 : L * 2 < C.size := by omega
  have h2 : L * 2 + 1 < C.size := by omega
  refine ⟨⟨C[L * 2], by simp [World.cell?, c1, h1]⟩, fun v => ⟨C[L * 2 + 1], ?_⟩, fun i => by simp [World.frozen?, c1], fun v i => by simp [World.frozen?, Joins.block_setCell c1' v]⟩
  rw [set_other _ (Or.inr (by omega))]
  simp [World.cell?, c1, h2]
/-- The spot under way may be written. -/
theorem Dl.atfacts {w W : World} {R P A N D : Nat} {sd c : Int} {ns : List Nd} {k j L q : Nat} (h : Dl w W R P A N D sd c ns k j L q) :
    (∃ v, W.cell? ⟨A, 0, none⟩ = some v) ∧ (∀ i, W.frozen? ⟨A, i, none⟩ = false) ∧ (∃ u, ∀ v n, ((W.drewN n).setCell ⟨A, 0, none⟩ v).cell? ⟨A, 1, none⟩ = some u) ∧ (∀ v n i, ((W.drewN n).setCell ⟨A, 0, none⟩ v).frozen? ⟨A, i, none⟩ = false) := by
  have h2 := h.dn.at_
  have h2' : ∀ n, (W.drewN n).heap[A]? = some (.cells #[lkV D ns q, .int .i64 (q : Int)] 59 (0, 0)) := fun n => h2
  refine ⟨⟨_, Lib.cell_of_heap h2 0⟩, fun i => by simp [World.frozen?, h2], ⟨.int .i64 (q : Int), fun v n => ?_⟩, fun v n i => by simp [World.frozen?, Joins.block_setCell (h2' n) v]⟩
  rw [set_other _ (Or.inr (by omega))]
  exact Lib.cell_of_heap (h2' n) 1
/-- One pair more is gone past: the spot is written. -/
structure Mid (w W : World) (R P A N D : Nat) (sd c : Int) (ns : List Nd) (k j L q : Nat) : Prop where
  dn : Dn w W R P A D sd c ns k j q
  nx : ∃ v u, W.heap[N]? = some (.cells #[v, u] 52 (0, 0))
  ow : ∃ b o m, Ow D ns L q b o ∧ lkb D ns q = (b, o, m) ∧ L < m
  le : q ≤ k
  lt : A < N
  sn : ∀ b ∈ blks D ns, b ≠ N
theorem ow_here {D : Nat} {ns : List Nd} {L r : Nat} {n : Nd} (hn : ns[r]? = some n) (hl : L < n.h) : Ow D ns L (r + 1) n.lb 0 ∧ lkb D ns (r + 1) = (n.lb, 0, n.h) := by
  refine ⟨Or.inr ⟨n, by simpa using hn, by omega, hl, rfl, rfl⟩, ?_⟩
  unfold lkb
  rw [if_neg (by omega), Nat.add_sub_cancel, hn]
theorem lkV_here {D : Nat} {ns : List Nd} {L r : Nat} {n : Nd} (hn : ns[r]? = some n) (hl : L < n.h) : lkV D ns (r + 1) = .slice (some ⟨n.lb, 0, none⟩) n.h n.h := by
  unfold lkV
  rw [(ow_here (D := D) hn hl).2]
theorem Dl.step1 {w W : World} {R P A N D : Nat} {sd c : Int} {ns : List Nd} {k j L q r : Nat} (h : Dl w W R P A N D sd c ns k j L q) {n : Nd} (hn : ns[r]? = some n) (hl : L < n.h) (hr : r < k) (x : Int) (hx : x = (r : Int) + 1) :
    Mid w ((W.setCell ⟨A, 0, none⟩ (.slice (some ⟨n.lb, 0, none⟩) n.h n.h)).setCell ⟨A, 1, none⟩ (.int .i64 x)).drew R P A N D sd c ns k j L (r + 1) := by
  obtain ⟨⟨C, r1, r2⟩, ⟨B, b1, b2⟩, hat, ⟨s1, s2, s3⟩, hsep⟩ := (⟨h.dn.res, h.dn.pth, h.dn.at_, h.dn.lo, h.dn.sep⟩ : _ ∧ _ ∧ _ ∧ _ ∧ _)
  have hlt := h.lt
  have hO : Only [A] W ((W.setCell ⟨A, 0, none⟩ (.slice (some ⟨n.lb, 0, none⟩) n.h n.h)).setCell ⟨A, 1, none⟩ (.int .i64 x)).drew :=
    (((Only.refl [A] W).set (p := ⟨A, 0, none⟩) (Or.inl (by simp)) _).set (p := ⟨A, 1, none⟩) (Or.inl (by simp)) _).drew
  have ha : (((W.setCell ⟨A, 0, none⟩ (.slice (some ⟨n.lb, 0, none⟩) n.h n.h)).setCell ⟨A, 1, none⟩ (.int .i64 x)).drew).heap[A]? = some (.cells #[.slice (some ⟨n.lb, 0, none⟩) n.h n.h, .int .i64 x] 59 (0, 0)) :=
    Joins.block_setCell (Joins.block_setCell hat _) _
  have e1 : ∀ x ∈ blks D ns, x ∉ [A] := fun x hx => by
    have := (hsep x hx).2.2
    simpa using this
  refine ⟨⟨h.dn.only.trans hO (fun x hx => ?_), h.dn.lst.keep hO e1, ⟨C, hO.keep r1 (by simp; omega), r2⟩, ⟨B, hO.keep b1 (by simp; omega), b2⟩, ?_, ⟨s1, s2, s3⟩, hsep⟩, ⟨_, _, hO.keep h.nx (by simp; omega)⟩, ⟨n.lb, 0, n.h, (ow_here hn hl).1, (ow_here hn hl).2, hl⟩, by omega, hlt, h.sn⟩
  · obtain rfl := List.mem_singleton.1 hx
    exact Or.inr (by omega)
  · rw [ha, lkV_here hn hl, hx]
    simp
theorem Mid.facts {w W : World} {R P A N D : Nat} {sd c : Int} {ns : List Nd} {k j L r : Nat} (h : Mid w W R P A N D sd c ns k j L (r + 1)) (hL : L < 16) {n : Nd} (hn : ns[r]? = some n) (hl : L < n.h) :
    W.cell? ⟨A, 0, none⟩ = some (.slice (some ⟨n.lb, 0, none⟩) n.h n.h) ∧ W.cell? ⟨n.lb, L * 2, none⟩ = some (.pointer (lnk L (ns.drop (r + 1))).1) ∧ W.cell? ⟨n.lb, L * 2 + 1, none⟩ = some (.int .i64 (((lnk L (ns.drop (r + 1))).2 : Nat) : Int)) ∧
    (∃ v, W.cell? ⟨N, 0, none⟩ = some v) ∧ (∀ i, W.frozen? ⟨N, i, none⟩ = false) ∧ (∀ v, ∃ u, (W.setCell ⟨N, 0, none⟩ v).cell? ⟨N, 1, none⟩ = some u) ∧ (∀ v i, (W.setCell ⟨N, 0, none⟩ v).frozen? ⟨N, i, none⟩ = false) ∧
    Dl w ((W.setCell ⟨N, 0, none⟩ (.pointer (lnk L (ns.drop (r + 1))).1)).setCell ⟨N, 1, none⟩ (.int .i64 (((lnk L (ns.drop (r + 1))).2 : Nat) : Int))) R P A N D sd c ns k j L (r + 1) := by
  have hA := h.dn.at_
  have ha0 := Lib.cell_of_heap hA 0
  rw [lkV_here hn hl] at ha0
  obtain ⟨l1, l2⟩ := h.dn.lst.lv L hL _ _ _ (ow_here (D := D) hn hl).1
  obtain ⟨v, u, hN⟩ := h.nx
  rw [Nat.zero_add, Nat.mul_comm] at l1 l2
  obtain ⟨⟨C, r1, r2⟩, ⟨B, b1, b2⟩, ⟨s1, s2, s3⟩, hsep⟩ := (⟨h.dn.res, h.dn.pth, h.dn.lo, h.dn.sep⟩ : _ ∧ _ ∧ _ ∧ _)
  have hlt := h.lt
  refine ⟨ha0, l1, l2, ⟨_, Lib.cell_of_heap hN 0⟩, fun i => by simp [World.frozen?, hN], fun v => ⟨u, by rw [set_other _ (Or.inr (by omega))]; exact Lib.cell_of_heap hN 1⟩, fun v i => by simp [World.frozen?, Joins.block_setCell hN v], ?_⟩
  have hO : Only [N] W ((W.setCell ⟨N, 0, none⟩ (.pointer (lnk L (ns.drop (r + 1))).1)).setCell ⟨N, 1, none⟩ (.int .i64 (((lnk L (ns.drop (r + 1))).2 : Nat) : Int))) :=
    ((Only.refl [N] W).set (p := ⟨N, 0, none⟩) (Or.inl (by simp)) _).set (p := ⟨N, 1, none⟩) (Or.inl (by simp)) _
  have e1 : ∀ x ∈ blks D ns, x ∉ [N] := fun x hx => by
    have := h.sn x hx
    simpa using this
  refine ⟨⟨h.dn.only.trans hO (fun x hx => ?_), h.dn.lst.keep hO e1, ⟨C, hO.keep r1 (by simp; omega), r2⟩, ⟨B, hO.keep b1 (by simp; omega), b2⟩, hO.keep hA (by simp; omega), ⟨s1, s2, s3⟩, hsep⟩, Joins.block_setCell (Joins.block_setCell hN _) _, h.ow, h.le, hlt, h.sn⟩
  obtain rfl := List.mem_singleton.1 hx
  exact Or.inr (by omega)
/-- A level is left. -/
theorem Dl.done {w W : World} {R P A N D : Nat} {sd c : Int} {ns : List Nd} {k j L q : Nat} (h : Dl w W R P A N D sd c ns k j L q) (hj : j < 16) (hL : L = 15 - j) (hs : ∀ i m, q ≤ i → i < k → ns[i]? = some m → ¬ L < m.h) (n : Nat) :
    Dn w (((W.drewN n).setCell ⟨P, L * 2, none⟩ (lkV D ns q)).setCell ⟨P, L * 2 + 1, none⟩ (.int .i64 (q : Int))) R P A D sd c ns k (j + 1) (own ns (16 - (j + 1)) k) := by
  rw [show 16 - (j + 1) = L by omega]
  obtain ⟨b, o, m, h1, h2, h3⟩ := h.ow
  have hq : own ns L k = q := by
    refine own_eq h.le ?_ hs
    rcases h1 with ⟨h1, _⟩ | ⟨n, a1, a2, a3, _⟩
    · exact Or.inl h1
    · exact Or.inr ⟨n, a1, a2, a3⟩
  rw [hq]
  obtain ⟨⟨C, r1, r2⟩, ⟨B, b1, b2, b3⟩, hat, ⟨s1, s2, s3⟩, hsep⟩ := (⟨h.dn.res, h.dn.pth, h.dn.at_, h.dn.lo, h.dn.sep⟩ : _ ∧ _ ∧ _ ∧ _ ∧ _)
  have hP : P < W.heap.size := some_lt b1
  have hk : ∀ x, x ≠ P → (((W.drewN n).setCell ⟨P, L * 2, none⟩ (lkV D ns q)).setCell ⟨P, L * 2 + 1, none⟩ (.int .i64 (q : Int))).heap[x]? = W.heap[x]? := fun x hx => by
    rw [Below.heap_setCell _ _ _ _ hx, Below.heap_setCell _ _ _ _ hx]; rfl
  have hO : Only [P] W (((W.drewN n).setCell ⟨P, L * 2, none⟩ (lkV D ns q)).setCell ⟨P, L * 2 + 1, none⟩ (.int .i64 (q : Int))) :=
    ((((Only.refl [P] W).drewN n).set (p := ⟨P, L * 2, none⟩) (Or.inl (by simp)) _).set (p := ⟨P, L * 2 + 1, none⟩) (Or.inl (by simp)) _)
  have b1' : (W.drewN n).heap[P]? = some (.cells B 61 (0, 0)) := b1
  refine ⟨h.dn.only.trans hO (fun x hx => ?_), h.dn.lst.keep hO (fun x hx => ?_), ⟨C, by rw [hk R (by omega)]; exact r1, r2⟩, ⟨_, Joins.block_setCell (Joins.block_setCell b1' _) _, by simpa using b2, fun L' h5 h6 => ?_⟩, by rw [hk A (by omega)]; exact hat, ⟨s1, s2, s3⟩, hsep⟩
  · obtain rfl := List.mem_singleton.1 hx
    exact Or.inr (by omega)
  · have := (hsep x hx).2.1
    simpa using this
  · by_cases he : L' = L
    · subst he
      rw [hq]
      constructor
      · rw [Array.getElem?_setIfInBounds_ne (by omega), Nat.mul_comm, Array.getElem?_setIfInBounds_self_of_lt (by omega)]
      · rw [Nat.mul_comm, Array.getElem?_setIfInBounds_self_of_lt (by simp; omega)]
    · obtain ⟨p1, p2⟩ := b3 L' (by omega) h6
      constructor
      · rw [Array.getElem?_setIfInBounds_ne (by omega), Array.getElem?_setIfInBounds_ne (by omega)]; exact p1
      · rw [Array.getElem?_setIfInBounds_ne (by omega), Array.getElem?_setIfInBounds_ne (by omega)]; exact p2
theorem dn_start {w W : World} {R D : Nat} {sd c : Int} {ns : List Nd} (k : Nat) (hO : Only [] w W) (hl : Lst W D sd c ns) (hres : W.heap[R]? = some (.cells path0 61 (0, 0))) (hR : w.heap.size ≤ R) (hD : ∀ b ∈ blks D ns, b ≠ R) :
    Dn w ((W.alloc (.cells path0 61)).alloc (.cells #[.slice (some ⟨D, 1, none⟩) 16 16, .int .i64 0] 59)) R W.heap.size (W.heap.size + 1) D sd c ns k 0 (own ns 16 k) := by
  have hRl := some_lt hres
  have ho : Only [] W ((W.alloc (.cells path0 61)).alloc (.cells #[.slice (some ⟨D, 1, none⟩) 16 16, .int .i64 0] 59)) := ((Only.refl [] W).alloc _).alloc _
  have hP := heap_alloc_new W (.cells path0 61)
  have hA := heap_alloc_new (W.alloc (.cells path0 61)) (.cells #[.slice (some ⟨D, 1, none⟩) 16 16, .int .i64 0] 59)
  have hs : (W.alloc (.cells path0 61)).heap.size = W.heap.size + 1 := by simp
  rw [hs] at hA
  rw [own_top hl.base.hs]
  refine ⟨hO.trans ho (by simp), hl.none' ho, ⟨_, ho.keep hres List.not_mem_nil, rfl⟩, ⟨path0, ?_, rfl, fun L h1 h2 => by omega⟩, hA, ⟨hR, hRl, by omega⟩, fun b hb => ⟨hD b hb, ?_, ?_⟩⟩
  · rw [Below.heap_alloc _ _ _ (by rw [hs]; omega)]
    exact hP
  · have := hl.base.lt hb; omega
  · have := hl.base.lt hb; omega
/-- A whole path as a value. -/
structure PathC (C : Array Value) (D : Nat) (ns : List Nd) (k : Nat) : Prop where
  size : C.size = 32
  at_ : ∀ L, L < 16 → C[2 * L]? = some (lkV D ns (own ns L k)) ∧ C[2 * L + 1]? = some (.int .i64 ((own ns L k : Nat) : Int))
theorem PathC.one {C : Array Value} {D : Nat} {ns : List Nd} {k : Nat} (h : PathC C D ns k) : C.all (·.oneCell') = true := by
  rw [Array.all_eq_true]
  intro i hi
  have hz := h.size
  obtain ⟨h1, h2⟩ := h.at_ (i / 2) (by omega)
  rcases Nat.mod_two_eq_zero_or_one i with hm | hm
  · rw [show 2 * (i / 2) = i by omega, Array.getElem?_eq_getElem hi] at h1
    injection h1 with h1
    rw [h1]
    rfl
  · rw [show 2 * (i / 2) + 1 = i by omega, Array.getElem?_eq_getElem hi] at h2
    injection h2 with h2
    rw [h2]
    rfl
theorem info_path : (Tryd.prog.info? 61).map (·.size) = some 32 := by kernel_rfl
theorem und_path : Tryd.prog.underlying 61 = some (.array 16 59) := by kernel_rfl
theorem run_load_path {w : World} {g : Nat} {C : Array Value} (hg : w.heap[g]? = some (.cells C 61 (0, 0))) (hC : C.size = 32) : (loadVar 61 ⟨g, 0, none⟩).run Tryd.prog w = .ok (.agg C) w :=
  run_loadVar_row w g _ _ C (0, 0) _ hg und_path rfl (by rw [hC]; exact info_path)
theorem wpList_load_path {w : World} {ops : Array Oper} {rest : List Oper} {o : Oper} {a : Act} {Q : Exit → Act → World → Prop} (hgd : o.guard = none) (x : Operand) (ho : o.op = .load 61 x) (g : Nat) (hx : a.eval x = .pointer (some ⟨g, 0, none⟩))
    (C : Array Value) (hg : w.heap[g]? = some (.cells C 61 (0, 0))) (hC : C.size = 32) (h : wpList Tryd.prog ops Q rest (a.put o.dst (.agg C)) w) : wpList Tryd.prog ops Q (o :: rest) a w := by
  refine wpList_plain hgd fun K hK => ?_
  have hr := run_load_path hg hC
  unfold Oper.wp execOp
  simp only [ho, Instr.loadAt, Instr.sureAddr, Sem.run_bind, Sem.run_pure, Result.andThen_ok, hx, hr]
  exact hK _ _ h
theorem wpList_store_path {w : World} {ops : Array Oper} {rest : List Oper} {o : Oper} {a : Act} {Q : Exit → Act → World → Prop} (hgd : o.guard = none) (x y : Operand) (ho : o.op = .store 61 x y) (g : Nat) (hx : a.eval x = .pointer (some ⟨g, 0, none⟩))
    (B C : Array Value) (hy : a.eval y = .agg C) (hg : w.heap[g]? = some (.cells B 61 (0, 0))) (hB : B.size = 32) (hC : C.size = 32) (h1 : C.all (·.oneCell') = true)
    (h : ∀ w', w'.heap[g]? = some (.cells C 61 (0, 0)) → Only [g] w w' → wpList Tryd.prog ops Q rest (a.put o.dst undef) w') : wpList Tryd.prog ops Q (o :: rest) a w := by
  refine wpList_plain hgd fun K hK => ?_
  have hr := run_storeVar_row (P := Tryd.prog) w g 61 61 B C hg (by rw [hC]; exact info_path) (by omega) h1
  unfold Oper.wp execOp
  simp only [ho, Instr.storeAt, Instr.sureAddr, Sem.run_bind, Sem.run_pure, Result.andThen_ok, hx, hy, hr]
  exact hK _ _ (h _ (setRow_heap w g _ _ _ _ hg) ((Only.refl _ _).row (Or.inl (by simp)) _))
theorem dn_ex {w W : World} {R P A D : Nat} {sd c : Int} {ns : List Nd} {k j q : Nat} (h : Dn w W R P A D sd c ns k j q) : ∃ sd1 c1 : Int, Hid (Dn w W R P A D sd1 c1 ns k j q) := ⟨sd, c, Lib.hid h⟩
end Go.Proofs.YtijfipghoilpeaaDoor
