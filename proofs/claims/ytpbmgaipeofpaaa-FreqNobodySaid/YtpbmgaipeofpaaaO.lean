/-
  Rows of texts of one's own: what is appended, whether two are the same. No condition but the bound that a row's room has.
-/
import Derived.Test.YtpbmgaipeofpaaaA
import Derived.Laws.AppendOwnNone
import Derived.Maps.AppendAt
import Derived.Deep.RegionLaw
import Derived.Deep.LoopGhost
import Derived.Deep.RegionHeld3
namespace Go.Proofs.Ytpbmgaipeofpaaa
open Go.RowKit

/-- A row of texts of one's own. -/
def RowT (w : World) (base : Nat) (v : Value) (L : List ByteArray) : Prop := w.ownsRow base 9 1 v L.length (L.map Value.string)
theorem rowT_nil (w : World) (base : Nat) : RowT w base (.slice none 0 0) [] := World.ownsRow_nil w base 9 1
theorem info_str : (Try.prog.info? 9).map (fun i => (i.zero, i.size, i.bytes)) = some (some (.string ⟨#[]⟩), 1, 16) := by kernel_rfl
theorem RowT.len {w : World} {base : Nat} {v : Value} {L : List ByteArray} (h : RowT w base v L) : ∃ (A : Option Addr) (c : Nat), v = .slice A L.length c := by
  obtain ⟨_, ⟨rfl, h2⟩ | ⟨g, cap, cur, rfl, _⟩⟩ := h
  · exact ⟨none, 0, by rw [h2]⟩
  · exact ⟨_, _, rfl⟩
theorem RowT.lt {w : World} {base : Nat} {v : Value} {L : List ByteArray} (h : RowT w base v L) : ∀ k, v.ownBlock = some k → base ≤ k ∧ k < w.heap.size := fun k hk => by
  have := World.ownsRow.lt h k hk
  exact ⟨this.1, this.2⟩
/-- What a row's cells are. -/
theorem RowT.cell {w : World} {base : Nat} {v : Value} {L : List ByteArray} (h : RowT w base v L) {j : Nat} {x : ByteArray} (hj : L[j]? = some x) : ∃ (g c : Nat), v = .slice (some ⟨g, 0, none⟩) L.length c ∧ base ≤ g ∧ g < w.heap.size ∧ w.cell? ⟨g, j, none⟩ = some (.string x) := by
  have hlt : j < L.length := (List.getElem?_eq_some_iff.1 hj).1
  have h' := h
  obtain ⟨h1, ⟨rfl, h2⟩ | ⟨g, cap, cur, rfl, h3, h4, h5, h6, h7, h8⟩⟩ := h
  · omega
  · refine ⟨g, cap, rfl, h3, some_lt h4, ?_⟩
    rw [World.ownsRow.cellAt h' j (by simpa using hlt)]
    simp [hj]
theorem RowT.only {w w' : World} {base : Nat} {v : Value} {L : List ByteArray} {O : List Nat} (h : RowT w base v L) (ho : Only O w w') (hO : ∀ k, v.ownBlock = some k → k ∉ O) : RowT w' base v L := by
  obtain ⟨h1, ⟨rfl, h2⟩ | ⟨g, cap, cur, rfl, h3, h4, h5, h6, h7, h8⟩⟩ := h
  · exact ⟨h1, Or.inl ⟨rfl, h2⟩⟩
  · exact ⟨h1, Or.inr ⟨g, cap, cur, rfl, h3, ho.keep h4 (hO g rfl), h5, h6, h7, h8⟩⟩
theorem RowT.same {w w' : World} {base : Nat} {v : Value} {L : List ByteArray} (h : RowT w base v L) (ho : Only [] w w') : RowT w' base v L := h.only ho (fun _ _ => by simp)
theorem RowT.base {w : World} {base base' : Nat} {v : Value} {L : List ByteArray} (h : RowT w base v L) (hb : base' ≤ base) : RowT w base' v L := by
  obtain ⟨h1, ⟨rfl, h2⟩ | ⟨g, cap, cur, rfl, h3, h4⟩⟩ := h
  · exact ⟨h1, Or.inl ⟨rfl, h2⟩⟩
  · exact ⟨h1, Or.inr ⟨g, cap, cur, rfl, by omega, h4⟩⟩
theorem rowT_mk {w : World} {b : Nat} {C : Array Value} {L : List ByteArray} (hY : w.heap[b]? = some (.cells C 9 (0, 0))) (hC : C.toList = L.map Value.string) (hm : L.length ≤ 1048576) {base : Nat} (hb : base ≤ b) : RowT w base (.slice (some ⟨b, 0, none⟩) L.length L.length) L := by
  have hl : C.size = L.length := by rw [← Array.length_toList, hC, List.length_map]
  refine ⟨by simp, Or.inr ⟨b, L.length, C, rfl, hb, hY, Nat.le_refl _, by unfold maxLen; omega, by rw [hl, Nat.mul_one], ?_⟩⟩
  rw [hC]
  exact List.take_of_length_le (by simp)
theorem rowT_one (w : World) (x : ByteArray) {B : Nat} (hB : B ≤ w.heap.size) : RowT (w.alloc (.cells #[.string x] 9)) B (.slice (some ⟨w.heap.size, 0, none⟩) 1 1) [x] :=
  rowT_mk (L := [x]) (heap_alloc_new w _) rfl (by simp) hB
theorem wpList_append_rowT {w : World} {ops : Array Oper} {rest : List Oper} {o : Oper} {a : Act} {Q : Exit → Act → World → Prop} (hgd : o.guard = none) (s x : Operand)
    (ho : o.op = .call { callee := .builtin .append, args := #[s, x], argTypes := #[39, 39] })
    (base base' : Nat) (v xv : Value) (L M : List ByteArray) (hs : a.eval s = v) (hx : a.eval x = xv) (hv : RowT w base v L) (hxv : RowT w base' xv M) (hlen : L.length + M.length ≤ 8000000000000) (hbase : base ≤ w.heap.size)
    (h : ∀ v' w', RowT w' base v' (L ++ M) → Only v.ownBlock.toList w w' → (v'.ownBlock = v.ownBlock ∨ v'.ownBlock = some w.heap.size) → wpList Try.prog ops Q rest (a.put o.dst v') w') : wpList Try.prog ops Q (o :: rest) a w := by
  obtain ⟨i0, hi, hz0, hz1, hz2⟩ := info_partsS info_str
  have hxv' := hxv
  obtain ⟨h1, ⟨rfl, h2⟩ | ⟨g, cap, cur, rfl, h3, h4, h5, h6, h7, h8⟩⟩ := hxv'
  · have hM : M = [] := List.length_eq_zero_iff.1 h2
    subst hM
    refine wpList_append_own_none hgd s x 39 ho base 9 i0 1 Try.underlying39 hi v L.length _ hs hv hx ?_
    exact h v w (by rw [List.append_nil]; exact hv) (Only.refl _ _) (Or.inl rfl)
  · refine wpList_plain hgd fun K hK => ?_
    obtain ⟨v', w', hr, k2, k3, _, k5⟩ := run_append_own_at (P := Try.prog) w base 39 o.type 9 i0 (.string ⟨#[]⟩) 1 16 Try.underlying39 hi hz0 hz1 hz2 rfl (by omega) v L.length _ hv ⟨g, 0, none⟩ M.length cap (M.map Value.string) (by simp) (by
      intro j u hj
      obtain ⟨y, hy, rfl⟩ : ∃ y, M[j]? = some y ∧ u = .string y := by
        rw [List.getElem?_map] at hj
        cases hm : M[j]? with
        | none => rw [hm] at hj; cases hj
        | some y => rw [hm] at hj; exact ⟨y, rfl, (Option.some.inj hj).symm⟩
      obtain ⟨g', c', he, _, _, hc⟩ := hxv.cell hy
      cases he
      rcases j with _ | j <;> simpa [Addr.add] using hc) (by intro u hu; obtain ⟨y, _, rfl⟩ := List.mem_map.1 hu; rfl) (by unfold maxLen; omega) (by omega) hbase
    unfold Oper.wp execOp
    simp only [ho, resolve, invoke, builtin, Sem.run_bind, Sem.run_pure, Result.andThen_ok, List.map_toArray, List.map_cons, List.map_nil, hs, hx, hr]
    refine hK _ _ (h v' w' ?_ (grown_only k3) k5)
    unfold RowT
    rw [List.length_append, List.map_append]
    exact k2
theorem run_ixT (g k n cap : Nat) (hk : k < n) (w : World) : Sem.run Try.prog (Instr.indexAt 39 (.slice (some ⟨g, 0, none⟩) n cap) (.int .i64 (k : Int))) w = .ok (.pointer (some ⟨g, k, none⟩)) w := by
  go_simp
set_option maxHeartbeats 4000000 in
/-- The same texts. -/
theorem tsame_any {w : World} {B B' : Nat} {v v' : Value} {L : List ByteArray} (h : RowT w B v L) (h' : RowT w B' v' L) (hl : L.length ≤ 1000000) :
    Calls Try.prog 21 #[v, v'] w fun r w' => r = .returned (.bool true) ∧ Only [] w w' := by
  have hH := Lib.hid h
  have hH' := Lib.hid h'
  obtain ⟨A, c, rfl⟩ := h.len
  obtain ⟨A', c', rfl⟩ := h'.len
  obtain ⟨n, hn⟩ : ∃ n, n = L.length := ⟨_, rfl⟩
  have hnH := Lib.hid hn
  rw [← hn] at hH hH' hl ⊢
  clear hn h h'
  go_enter Try.func21, Try.ntmps21
  go_wp2_with fail
  go_loopw [5] (fun s5 wr => ∃ i : Nat, i ≤ n ∧ s5 = .int .i64 i ∧ Hid (Only [] w wr)) (fun s5 _ => n - (intOf s5).toNat)
  case atStart => exact ⟨0, by omega, rfl, Lib.hid (Only.refl _ _)⟩
  case round =>
    obtain ⟨i, hi, rfl, hon⟩ := hrel
    by_cases hil : i < n
    · obtain ⟨e, he⟩ : ∃ e, L[i]? = some e := ⟨_, List.getElem?_eq_getElem (by rw [← hnH.out]; exact hil)⟩
      obtain ⟨g1, c1, e1, _, _, d1⟩ := hH.out.cell he
      obtain ⟨g2, c2, e2, _, _, d2⟩ := hH'.out.cell he
      have e1' : A = some ⟨g1, 0, none⟩ := by injection e1
      have e2' : A' = some ⟨g2, 0, none⟩ := by injection e2
      clear e1 e2
      subst e1' e2'
      have y1 := cell_keep hon.out d1
      have y2 := cell_keep hon.out d2
      have hbq : (e.toList == e.toList) = true := by simp
      have hix := run_ixT g1 i n c hil
      have hix2 := run_ixT g2 i n c' hil
      have hilH := Lib.hid hil
      have hlt : decide ((i : Int) < (n : Int)) = true := decide_eq_true (by omega)
      have hltn : decide (i < n) = true := decide_eq_true hil
      clear he d1 d2 hil
      go_wp2_with fail
      go_quiet (fail)
      go_wp2_with fail
      go_roundw
      case rel => exact ⟨i + 1, by have := hilH.out; omega, by go_num, Lib.hid (hon.out.drewN _)⟩
      case measure => have := hilH.out; simp [intOf]; omega
    · have : i = n := by omega
      subst this
      go_wp2_with fail
      go_ret
      exact ⟨rfl, hon.out⟩
end Go.Proofs.Ytpbmgaipeofpaaa
