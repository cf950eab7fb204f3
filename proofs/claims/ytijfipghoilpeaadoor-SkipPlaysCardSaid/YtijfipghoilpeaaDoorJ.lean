/-
  The walks of Put and Drop. Premises: a list as it lies, in order; fewer pairs than a million; the tables as they lie.
-/
import Derived.Test.YtijfipghoilpeaaDoorG
import Derived.Test.YtijfipghoilpeaaDoorI
namespace Go.Proofs.YtijfipghoilpeaaDoor
open Go.RowKit

theorem info_link : (Tryd.prog.info? 52).map (fun i => (i.zero, i.size, i.bytes)) = some (some (.agg #[.pointer none, .int .i64 0]), 2, 16) := by kernel_rfl
theorem info_parts {P : Program} {t : TypeId} {z : Value} {s b : Nat} (h : (P.info? t).map (fun i => (i.zero, i.size, i.bytes)) = some (some z, s, b)) : ∃ i, P.info? t = some i ∧ i.zero = some z ∧ i.size = s ∧ i.bytes = b := by
  cases hq : P.info? t with
  | none => rw [hq] at h; cases h
  | some i =>
    rw [hq] at h
    simp at h
    exact ⟨i, rfl, h.1, h.2.1, h.2.2⟩
def linkC (h : Nat) : Array Value := madeCells (Value.agg #[.pointer none, .int .i64 0]).cells (h * 2)
theorem linkC_size (h : Nat) : (linkC h).size = 2 * h := by simp [linkC, madeCells, Nat.mul_comm]
theorem run_links (h : Nat) (hh : h ≤ 16) (w : World) : (Instr.makeSlice 57 (.int .i64 (h : Int)) (.int .i64 (h : Int))).run Tryd.prog w = .ok (.slice (some ⟨w.heap.size, 0, none⟩) h h) (w.alloc (.cells (linkC h) 52)) := by
  obtain ⟨i, hi, h0, h1, h2⟩ := info_parts info_link
  have hb : (i.bytes : Int) * (h : Int) ≤ 281474976710656 := by rw [h2]; omega
  have := run_make (P := Tryd.prog) w 57 52 i _ Tryd.underlying57 hi h0 .i64 .i64 h h (by omega) (by omega) hb (by omega)
  rw [h1] at this
  simp only [Int.toNat_natCast] at this
  exact this

theorem ins_perm (M : List Nd) (k : Nat) (n : Nd) : (ins M k n).Perm (n :: M) := by
  unfold ins
  refine List.perm_middle.trans ?_
  rw [List.take_append_drop]
theorem mem_ins_iff {M : List Nd} {k : Nat} {n x : Nd} : x ∈ ins M k n ↔ x = n ∨ x ∈ M := by
  rw [(ins_perm M k n).mem_iff, List.mem_cons]
theorem blks_ins {D : Nat} {M : List Nd} {k : Nat} {n : Nd} {b : Nat} : b ∈ blks D (ins M k n) ↔ b = n.lb ∨ b = n.nb ∨ b ∈ blks D M := by
  unfold blks
  simp only [List.mem_cons, List.mem_append, List.mem_map, mem_ins_iff]
  constructor
  · rintro (h | ⟨x, rfl | h, e⟩ | ⟨x, rfl | h, e⟩)
    · exact Or.inr (Or.inr (Or.inl h))
    · exact Or.inl e.symm
    · exact Or.inr (Or.inr (Or.inr (Or.inl ⟨x, h, e⟩)))
    · exact Or.inr (Or.inl e.symm)
    · exact Or.inr (Or.inr (Or.inr (Or.inr ⟨x, h, e⟩)))
  · rintro (h | h | h | ⟨x, h, e⟩ | ⟨x, h, e⟩)
    · exact Or.inr (Or.inl ⟨n, Or.inl rfl, h.symm⟩)
    · exact Or.inr (Or.inr ⟨n, Or.inl rfl, h.symm⟩)
    · exact Or.inl h
    · exact Or.inr (Or.inl ⟨x, Or.inr h, e⟩)
    · exact Or.inr (Or.inr ⟨x, Or.inr h, e⟩)
theorem lb_mem {D : Nat} {M : List Nd} {x : Nd} (h : x ∈ M) : x.lb ∈ blks D M := List.mem_cons_of_mem _ (List.mem_append.2 (Or.inl (List.mem_map_of_mem h)))
theorem nb_mem {D : Nat} {M : List Nd} {x : Nd} (h : x ∈ M) : x.nb ∈ blks D M := List.mem_cons_of_mem _ (List.mem_append.2 (Or.inr (List.mem_map_of_mem h)))
theorem D_mem (D : Nat) (M : List Nd) : D ∈ blks D M := List.mem_cons_self ..
/-- A pair's blocks lie beside a list. -/
theorem base_ins {w : World} {D : Nat} {sd c : Int} {M : List Nd} (h : Base w D sd c M) (k : Nat) {n : Nd} (h1 : w.heap[n.nb]? = some (nodeObj n)) (h2 : ∃ C, w.heap[n.lb]? = some (.cells C 52 (0, 0)) ∧ C.size = 2 * n.h) (hh : 1 ≤ n.h ∧ n.h ≤ 16) (hf : ∀ b ∈ blks D M, b ≠ n.nb ∧ b ≠ n.lb) (hne : n.lb ≠ n.nb) : Base w D sd c (ins M k n) := by
  refine ⟨h.head, fun x hx => ?_, fun x hx => ?_, fun x hx => ?_, ?_, fun x hx => ⟨?_, ?_, fun y hy => ?_⟩⟩
  · rcases mem_ins_iff.1 hx with rfl | hx
    · exact h1
    · exact h.node x hx
  · rcases mem_ins_iff.1 hx with rfl | hx
    · exact h2
    · exact h.link x hx
  · rcases mem_ins_iff.1 hx with rfl | hx
    · exact hh
    · exact h.hs x hx
  · refine (((ins_perm M k n).map Nd.lb).nodup_iff).2 ?_
    rw [List.map_cons, List.nodup_cons]
    refine ⟨fun hm => ?_, h.inj⟩
    obtain ⟨y, hy, e⟩ := List.mem_map.1 hm
    exact (hf _ (lb_mem hy)).2 e
  · rcases mem_ins_iff.1 hx with rfl | hx
    · exact fun e => (hf _ (D_mem D M)).2 e.symm
    · exact (h.sep x hx).1
  · rcases mem_ins_iff.1 hx with rfl | hx
    · exact fun e => (hf _ (D_mem D M)).1 e.symm
    · exact (h.sep x hx).2.1
  · rcases mem_ins_iff.1 hx with rfl | hx1
    · rcases mem_ins_iff.1 hy with rfl | hy1
      · exact hne
      · exact (hf _ (lb_mem hy1)).1
    · rcases mem_ins_iff.1 hy with rfl | hy1
      · exact fun e => (hf _ (nb_mem hx1)).2 e.symm
      · exact (h.sep x hx1).2.2 y hy1
theorem jn_start {w : World} {g D : Nat} {sd c : Int} {M : List Nd} {k : Nat} {n : Nd} (hl : Lst w D sd c M) (hp : PathAt w g D M k) (h1 : w.heap[n.nb]? = some (nodeObj n)) (h2 : ∃ C, w.heap[n.lb]? = some (.cells C 52 (0, 0)) ∧ C.size = 2 * n.h) (hh : 1 ≤ n.h ∧ n.h ≤ 16) (hf : ∀ b ∈ blks D M, b ≠ n.nb ∧ b ≠ n.lb) (hne : n.lb ≠ n.nb) (hg : g ∉ blks D M) (hg1 : g ≠ n.nb) (hg2 : g ≠ n.lb) : Jn w w g D sd c M k n 0 :=
  ⟨Only.refl _ _, base_ins hl.base k h1 h2 hh hf hne, fun L hL => by omega, fun L _ h => hl.lv L h, hp, fun hm => by
    rcases blks_ins.1 hm with e | e | e
    · exact hg2 e
    · exact hg1 e
    · exact hg e⟩
theorem jn_end {w w' : World} {g D : Nat} {sd c : Int} {M : List Nd} {k : Nat} {n : Nd} (h : Jn w w' g D sd c M k n 16) : Lst w' D sd c (ins M k n) := ⟨h.base, fun L hL => h.done L hL⟩
theorem base_out {w : World} {D : Nat} {sd c : Int} {M : List Nd} {k : Nat} {n : Nd} (h : Base w D sd c (ins M k n)) : Base w D sd c M :=
  ⟨h.head, fun x hx => h.node x (mem_of_ins hx), fun x hx => h.link x (mem_of_ins hx), fun x hx => h.hs x (mem_of_ins hx), by
    have := (((ins_perm M k n).map Nd.lb).nodup_iff).1 h.inj
    rw [List.map_cons, List.nodup_cons] at this
    exact this.2, fun x hx => ⟨(h.sep x (mem_of_ins hx)).1, (h.sep x (mem_of_ins hx)).2.1, fun y hy => (h.sep x (mem_of_ins hx)).2.2 y (mem_of_ins hy)⟩⟩
theorem pt_end {w w' : World} {g D : Nat} {sd c : Int} {M : List Nd} {k : Nat} {n : Nd} (h : Pt w w' g D sd c M k n 16) : Lst w' D sd c M := ⟨base_out h.base, fun L hL => h.done L hL⟩
theorem lst_count {w : World} {D : Nat} {sd c : Int} {ns : List Nd} (h : Lst w D sd c ns) (c' : Int) : Lst (w.setCell ⟨D, 33, none⟩ (.int .i64 c')) D sd c' ns :=
  ⟨h.base.count c', fun L hL => (h.lv L hL).keep (fun q b o hq => by
    have hne : ∀ i, i < 33 ∨ b ≠ D → (w.setCell ⟨D, 33, none⟩ (.int .i64 c')).cell? ⟨b, i, none⟩ = w.cell? ⟨b, i, none⟩ := fun i hi => set_other _ (by omega)
    rcases hq with ⟨_, rfl, rfl⟩ | ⟨m, a1, _, _, rfl, rfl⟩
    · exact ⟨hne _ (Or.inl (by omega)), hne _ (Or.inl (by omega))⟩
    · have := (h.base.sep m (List.mem_of_getElem? a1)).1
      exact ⟨hne _ (Or.inr this), hne _ (Or.inr this)⟩)⟩

/-- A list in order. -/
structure Sk (w : World) (D : Nat) (ns : List Nd) : Prop where
  at_ : ∃ sd, U sd ∧ Lst w D sd (ns.length : Nat) ns
  ord : Rises (prs ns)
  few : ns.length ≤ 1000000
theorem Sk.is_ {w : World} {D : Nat} {ns : List Nd} (h : Sk w D ns) : Is w (.pointer (some ⟨D, 0, none⟩)) D ns := by
  obtain ⟨sd, _, h⟩ := h.at_
  exact Or.inr ⟨rfl, sd, h⟩
theorem Sk.keep {w w' : World} {D : Nat} {ns : List Nd} (h : Sk w D ns) {O : List Nat} (ho : Only O w w') (hd : ∀ b ∈ blks D ns, b ∉ O) : Sk w' D ns := by
  obtain ⟨sd, hu, hl⟩ := h.at_
  exact ⟨⟨sd, hu, hl.keep ho hd⟩, h.ord, h.few⟩
theorem Sk.lt {w : World} {D : Nat} {ns : List Nd} (h : Sk w D ns) {b : Nat} (hb : b ∈ blks D ns) : b < w.heap.size := by
  obtain ⟨sd, _, hl⟩ := h.at_
  exact hl.base.lt hb
/-- What a call that may write leaves. -/
def Done (w : World) (D : Nat) (ns : List Nd) (l : List Sc) (w' : World) : Prop := ∃ ns', Sk w' D ns' ∧ prs ns' = l ∧ Only (blks D ns) w w' ∧ ∀ b ∈ blks D ns', b ∈ blks D ns ∨ w.heap.size ≤ b
theorem prs_ins (M : List Nd) (k : Nat) (n : Nd) : prs (ins M k n) = (prs M).take k ++ n.x :: (prs M).drop k := by
  unfold prs ins
  rw [List.map_append, List.map_cons, List.map_take, List.map_drop]
theorem prs_put {M : List Nd} {n : Nd} (h : n.x ∉ prs M) : prs (ins M (ahd (prs M) n.x) n) = putS (prs M) n.x := by
  rw [prs_ins]; unfold putS; rw [if_neg h]
/-- Behind join and the count. -/
theorem put_done {w W W' : World} {g D : Nat} {sd : Int} {M : List Nd} {n : Nd} (hu : U sd) (hO : Only [] w W) (hn : w.heap.size ≤ n.nb ∧ w.heap.size ≤ n.lb) (hr : Rises (prs M)) (hx : n.x ∉ prs M) (hlen : M.length < 1000000)
    (h : Jn W W' g D sd (M.length : Nat) M (ahd (prs M) n.x) n 16) (c : Int) (hc : c = (M.length : Int) + 1) : Done w D M (putS (prs M) n.x) (W'.setCell ⟨D, 33, none⟩ (.int .i64 c)) := by
  have hL := lst_count (jn_end h) c
  have hl := ins_len (ahd_len M n.x) n
  refine ⟨ins M (ahd (prs M) n.x) n, ⟨⟨sd, hu, ?_⟩, ?_, by omega⟩, prs_put hx, ?_, fun b hb => ?_⟩
  · rw [hl, show ((M.length + 1 : Nat) : Int) = c by omega]
    exact hL
  · rw [prs_put hx]; exact put_rises hr _
  · refine ((hO.mono (O' := blks D M) (by simp)).trans (h.only.set (p := ⟨D, 33, none⟩) (Or.inl (List.mem_cons_self ..)) _) (fun x hx => ?_))
    rcases blks_ins.1 (wrs_blks hx) with rfl | rfl | e
    · exact Or.inr hn.2
    · exact Or.inr hn.1
    · exact Or.inl e
  · rcases blks_ins.1 hb with rfl | rfl | e
    · exact Or.inr hn.2
    · exact Or.inr hn.1
    · exact Or.inl e
end Go.Proofs.YtijfipghoilpeaaDoor
