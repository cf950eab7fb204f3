/-
  A timer in memory: its head, its heap, its map of places; what reads it: New, find, At, First, Len. Premises: a timer as it lies.
-/
import Derived.Test.YtbaghdfalhlhcaaC
import Derived.Deep.CutBlock
import Derived.BigRegion
import Derived.StillTailTactics
namespace Go.Proofs.Ytbaghdfalhlhcaa
open Go.RowKit

theorem rowS_block {w : World} {B g cap n : Nat} {L : List Sc} (h : RowS w B (.slice (some ⟨g, 0, none⟩) n cap) L) : n = L.length ∧ n ≤ cap ∧ cap ≤ maxLen ∧ ∃ C, w.heap[g]? = some (.cells C 44 (0, 0)) ∧ C.size = cap * 2 ∧ ∀ k x, L[k]? = some x → C[k * 2]? = some (.string x.1) ∧ C[k * 2 + 1]? = some (.int .i64 x.2) := by
  obtain ⟨h1, ⟨h2, _⟩ | ⟨g', cap', cur, he, h3, h4, h5, h6, h7, h8⟩⟩ := h
  · cases h2
  · cases he
    refine ⟨rfl, h5, h6, cur, h4, h7, fun k x hk => ?_⟩
    obtain ⟨a, b⟩ := pcs_at hk
    obtain ⟨hl, _⟩ := List.getElem?_eq_some_iff.1 hk
    rw [← h8, List.getElem?_take, if_pos (by omega), Array.getElem?_toList] at a
    rw [← h8, List.getElem?_take, if_pos (by omega), Array.getElem?_toList] at b
    exact ⟨a, b⟩
/-- What lies of a timer, whatever is noted: the head p, a row that holds h, a map m of at most c entries whose notes are f. -/
structure Tg (w : World) (p : Nat) (hv : Value) (m c : Nat) (h : List Sc) (f : ByteArray → Option Nat) : Prop where
  head : w.heap[p]? = some (.cells #[hv, .map (some m)] 53 (0, 0))
  row : RowS w 0 hv h
  map : MapAt w m c f
  cfew : c ≤ 1000001
  ap1 : hv.ownBlock ≠ some p
  ap2 : m ≠ p
  ap3 : hv.ownBlock ≠ some m
  keys : ∀ x ∈ h, x.1.size ≤ maxLen
  few : h.length ≤ 1000000
  uq : Uniq h
  dom : ∀ k, f k ≠ none → ∃ x ∈ h, x.1 = k
/-- All places but one are noted. -/
def Nt (h : List Sc) (f : ByteArray → Option Nat) (i : Nat) : Prop := ∀ k x, h[k]? = some x → k ≠ i → f x.1 = some k
def NtAll (h : List Sc) (f : ByteArray → Option Nat) : Prop := ∀ k x, h[k]? = some x → f x.1 = some k
/-- A timer's blocks. -/
def own (p : Nat) (hv : Value) (mv : Option Nat) : List Nat := p :: (hv.ownBlock.toList ++ mv.toList)
/-- A timer. -/
def Tm (w : World) (p : Nat) (O : List Nat) (h : List Sc) : Prop :=
  (w.heap[p]? = some (.cells #[.slice none 0 0, .map none] 53 (0, 0)) ∧ h = [] ∧ O = [p]) ∨
  ∃ hv m f, Tg w p hv m h.length h f ∧ NtAll h f ∧ Hp (el h) h.length ∧ O = own p hv (some m)
theorem own_p (p : Nat) (hv : Value) (mv : Option Nat) : p ∈ own p hv mv := List.mem_cons_self ..
theorem own_r {p : Nat} {hv : Value} {mv : Option Nat} {k : Nat} (h : hv.ownBlock = some k) : k ∈ own p hv mv := by
  unfold own
  rw [h]
  simp
theorem own_m (p : Nat) (hv : Value) (m : Nat) : m ∈ own p hv (some m) := by simp [own]
theorem mem_own {p : Nat} {hv : Value} {m b : Nat} : b ∈ own p hv (some m) ↔ b = p ∨ hv.ownBlock = some b ∨ b = m := by
  unfold own
  cases hv.ownBlock with
  | none => simp
  | some k => simp [eq_comm]
theorem Tg.lt {w : World} {p m c : Nat} {hv : Value} {h : List Sc} {f : ByteArray → Option Nat} (k : Tg w p hv m c h f) {b : Nat} (hb : b ∈ own p hv (some m)) : b < w.heap.size := by
  rcases mem_own.1 hb with rfl | hb | rfl
  · exact some_lt k.head
  · exact (k.row.lt b hb).2
  · exact k.map.lt
theorem Tg.keep {w w' : World} {p m c : Nat} {hv : Value} {h : List Sc} {f : ByteArray → Option Nat} (k : Tg w p hv m c h f) {O : List Nat} (ho : Only O w w') (hd : ∀ b ∈ own p hv (some m), b ∉ O) : Tg w' p hv m c h f :=
  ⟨ho.keep k.head (hd p (own_p _ _ _)), k.row.only ho (fun b hb => hd b (own_r hb)), k.map.keep ho (hd m (own_m _ _ _)), k.cfew, k.ap1, k.ap2, k.ap3, k.keys, k.few, k.uq, k.dom⟩
theorem Tm.lt {w : World} {p : Nat} {O : List Nat} {h : List Sc} (k : Tm w p O h) {b : Nat} (hb : b ∈ O) : b < w.heap.size := by
  rcases k with ⟨k1, _, rfl⟩ | ⟨hv, m, f, k1, _, _, rfl⟩
  · obtain rfl := List.mem_singleton.1 hb
    exact some_lt k1
  · exact k1.lt hb
theorem Tm.keep {w w' : World} {p : Nat} {O : List Nat} {h : List Sc} (k : Tm w p O h) {O' : List Nat} (ho : Only O' w w') (hd : ∀ b ∈ O, b ∉ O') : Tm w' p O h := by
  rcases k with ⟨k1, k2, rfl⟩ | ⟨hv, m, f, k1, k2, k3, rfl⟩
  · exact Or.inl ⟨ho.keep k1 (hd p (List.mem_singleton.2 rfl)), k2, rfl⟩
  · exact Or.inr ⟨hv, m, f, k1.keep ho hd, k2, k3, rfl⟩
theorem Tm.uq {w : World} {p : Nat} {O : List Nat} {h : List Sc} (k : Tm w p O h) : Uniq h := by
  rcases k with ⟨_, rfl, _⟩ | ⟨hv, m, f, k1, _⟩
  · exact List.Pairwise.nil
  · exact k1.uq
theorem Tm.few {w : World} {p : Nat} {O : List Nat} {h : List Sc} (k : Tm w p O h) : h.length ≤ 1000000 := by
  rcases k with ⟨_, rfl, _⟩ | ⟨hv, m, f, k1, _⟩
  · simp
  · exact k1.few
theorem Tm.hp {w : World} {p : Nat} {O : List Nat} {h : List Sc} (k : Tm w p O h) : Hp (el h) h.length := by
  rcases k with ⟨_, rfl, _⟩ | ⟨hv, m, f, _, _, k3, _⟩
  · exact fun j _ hj => by simp at hj
  · exact k3
theorem Tm.keys {w : World} {p : Nat} {O : List Nat} {h : List Sc} (k : Tm w p O h) : ∀ x ∈ h, x.1.size ≤ maxLen := by
  rcases k with ⟨_, rfl, _⟩ | ⟨hv, m, f, k1, _⟩
  · simp
  · exact k1.keys
/-- The row of a timer. -/
theorem Tm.heads {w : World} {p : Nat} {O : List Nat} {h : List Sc} (k : Tm w p O h) : ∃ hv mv, w.heap[p]? = some (.cells #[hv, .map mv] 53 (0, 0)) ∧ RowS w 0 hv h ∧ (∀ b, hv.ownBlock = some b → b ∈ O) ∧ p ∈ O := by
  rcases k with ⟨k1, rfl, rfl⟩ | ⟨hv, m, f, k1, _, _, rfl⟩
  · exact ⟨_, _, k1, rowS_nil _ _, fun b hb => by simp [Value.ownBlock] at hb, by simp⟩
  · exact ⟨hv, some m, k1.head, k1.row, fun b hb => own_r hb, own_p _ _ _⟩

theorem new_any (w : World) : Calls Try.prog 9 #[] w fun e w' => e = .returned (.pointer (some ⟨w.heap.size, 0, none⟩)) ∧ Tm w' w.heap.size [w.heap.size] [] ∧ Only [] w w' := by
  go_enter Try.func9, Try.ntmps9
  go_wp2
  go_ret
  exact ⟨rfl, Or.inl ⟨heap_alloc_new _ _, rfl, rfl⟩, (Only.refl [] w).alloc _⟩
theorem find_nil (w : World) (k : ByteArray) : Calls Try.prog 23 #[.pointer none, .string k] w fun e w' => e = .returned (.tuple #[.int .i64 0, .bool false]) ∧ w = w' := by
  go_enter Try.func23, Try.ntmps23
  go_wp2
  all_goals go_ret2
  all_goals exact ⟨rfl, rfl⟩
theorem find_run {w : World} {p : Nat} {hv mv : Value} {k : ByteArray} {x : Int} {b : Bool} (hp : w.heap[p]? = some (.cells #[hv, mv] 53 (0, 0))) (hl : (Instr.lookup 51 mv (.string k) true).run Try.prog w = .ok (.tuple #[.int .i64 x, .bool b]) w) :
    Calls Try.prog 23 #[.pointer (some ⟨p, 0, none⟩), .string k] w fun e w' => e = .returned (.tuple #[.int .i64 x, .bool b]) ∧ w = w' := by
  have c1 : w.cell? ⟨p, 1, none⟩ = some mv := Lib.cell_of_heap hp 1
  clear hp
  go_enter Try.func23, Try.ntmps23
  go_wp2
  all_goals go_ret2
  all_goals exact ⟨rfl, rfl⟩
theorem find_none {w : World} {p : Nat} {O : List Nat} {h : List Sc} (hT : Tm w p O h) (k : ByteArray) (hk : k.size ≤ maxLen) (hn : ∀ x ∈ h, x.1 ≠ k) :
    Calls Try.prog 23 #[.pointer (some ⟨p, 0, none⟩), .string k] w fun e w' => (∃ x : Int, e = .returned (.tuple #[.int .i64 x, .bool false])) ∧ w = w' := by
  rcases hT with ⟨k1, _, _⟩ | ⟨hv, m, f, k1, _⟩
  · exact (find_run k1 (look_none w k hk)).mono fun _ _ ⟨he, hw⟩ => ⟨⟨_, he⟩, hw⟩
  · obtain ⟨x, hx, _⟩ := k1.map.look k hk
    have hf : (f k).isSome = false := by
      cases hq : f k with
      | none => rfl
      | some i =>
        obtain ⟨y, hy, e⟩ := k1.dom k (by rw [hq]; simp)
        exact absurd e (hn y hy)
    rw [hf] at hx
    exact (find_run k1.head hx).mono fun _ _ ⟨he, hw⟩ => ⟨⟨_, he⟩, hw⟩
theorem find_some {w : World} {p : Nat} {O : List Nat} {h : List Sc} (hT : Tm w p O h) {i : Nat} {y : Sc} (hy : h[i]? = some y) :
    Calls Try.prog 23 #[.pointer (some ⟨p, 0, none⟩), .string y.1] w fun e w' => e = .returned (.tuple #[.int .i64 (i : Int), .bool true]) ∧ w = w' := by
  rcases hT with ⟨k1, rfl, _⟩ | ⟨hv, m, f, k1, k2, _⟩
  · simp at hy
  · obtain ⟨x, hx, hxi⟩ := k1.map.look y.1 (k1.keys y (List.mem_of_getElem? hy))
    have hf := k2 i y hy
    rw [hf, hxi i hf] at hx
    exact find_run k1.head hx
theorem at_nil (w : World) (k : ByteArray) : Calls Try.prog 17 #[.pointer none, .string k] w fun e w' => e = .returned (.tuple #[.int .i64 0, .bool false]) ∧ w = w' := by
  have hf := Lib.hid (fun w => find_nil w k)
  go_enter Try.func17, Try.ntmps17
  go_wp2_with (go_at_call 23; ((with_reducible refine (hf.out _).mono ?_); rintro e w' ⟨rfl, rfl⟩))
  all_goals go_ret2
  all_goals exact ⟨rfl, rfl⟩
/-- What At tells. -/
def atV (L : List Sc) (k : ByteArray) : Value := match atK L k with
  | none => .tuple #[.int .i64 0, .bool false]
  | some t => .tuple #[.int .i64 t, .bool true]
theorem at_none {w : World} {p : Nat} {O : List Nat} {h : List Sc} (hT : Tm w p O h) (k : ByteArray) (hk : k.size ≤ maxLen) (hn : ∀ x ∈ h, x.1 ≠ k) :
    Calls Try.prog 17 #[.pointer (some ⟨p, 0, none⟩), .string k] w fun e w' => e = .returned (.tuple #[.int .i64 0, .bool false]) ∧ w = w' := by
  have hf := Lib.hid (find_none hT k hk hn)
  clear hT
  go_enter Try.func17, Try.ntmps17
  go_wp2_with (go_at_call 23; ((with_reducible refine (hf.out).mono ?_); rintro e w' ⟨⟨x, rfl⟩, rfl⟩))
  all_goals go_ret2
  all_goals exact ⟨rfl, rfl⟩
theorem at_some {w : World} {p : Nat} {O : List Nat} {h : List Sc} (hT : Tm w p O h) {i : Nat} {y : Sc} (hy : h[i]? = some y) :
    Calls Try.prog 17 #[.pointer (some ⟨p, 0, none⟩), .string y.1] w fun e w' => e = .returned (.tuple #[.int .i64 y.2, .bool true]) ∧ w = w' := by
  have hf := Lib.hid (find_some hT hy)
  obtain ⟨hv, mv, h1, h2, _⟩ := hT.heads
  clear hT
  obtain ⟨hi, _⟩ := List.getElem?_eq_some_iff.1 hy
  rcases h2.form with ⟨_, rfl⟩ | ⟨g, cap, rfl, _, _, _, hc⟩
  · simp at hy
  · have c0 : w.cell? ⟨p, 0, none⟩ = some (.slice (some ⟨g, 0, none⟩) h.length cap) := Lib.cell_of_heap h1 0
    have c2 := (hc i y hy).2
    clear hc h1 h2
    have hix := run_ixS g i h.length cap hi
    obtain ⟨n, hnn⟩ : ∃ n, n = h.length := ⟨_, rfl⟩
    rw [← hnn] at c0 hix hi
    have hlt : ((i : Nat) : Int) < (n : Int) := by omega
    clear hi hy hnn
    go_enter Try.func17, Try.ntmps17
    go_wp2_with (go_at_call 23; ((with_reducible refine (hf.out).mono ?_); rintro e w' ⟨rfl, rfl⟩))
    all_goals go_ret2
    all_goals exact ⟨rfl, rfl⟩
/-- At. -/
theorem at_any {w : World} {p : Nat} {O : List Nat} {h r : List Sc} (hT : Tm w p O h) (hr : HR h r) (k : ByteArray) (hk : k.size ≤ maxLen) :
    Calls Try.prog 17 #[.pointer (some ⟨p, 0, none⟩), .string k] w fun e w' => e = .returned (atV r k) ∧ w = w' := by
  unfold atV
  cases hq : atK r k with
  | none => exact at_none hT k hk (fun x hx e => (atK_none.1 hq) x (hr.mem.1 hx) e)
  | some t =>
    have hm := hr.mem.2 (atK_mem hq)
    obtain ⟨i, hi⟩ := List.getElem?_of_mem hm
    exact at_some hT hi
theorem len_nil (w : World) : Calls Try.prog 20 #[.pointer none] w fun e w' => e = .returned (.int .i64 0) ∧ w = w' := by
  go_enter Try.func20, Try.ntmps20
  go_wp2
  all_goals go_ret
  all_goals exact ⟨rfl, rfl⟩
theorem len_any {w : World} {p : Nat} {O : List Nat} {h : List Sc} (hT : Tm w p O h) :
    Calls Try.prog 20 #[.pointer (some ⟨p, 0, none⟩)] w fun e w' => e = .returned (.int .i64 (h.length : Nat)) ∧ w = w' := by
  obtain ⟨hv, mv, h1, h2, _⟩ := hT.heads
  obtain ⟨A, c, rfl⟩ := h2.len
  have c0 : w.cell? ⟨p, 0, none⟩ = some (.slice A h.length c) := Lib.cell_of_heap h1 0
  clear h1 h2 hT
  go_enter Try.func20, Try.ntmps20
  go_wp2
  all_goals go_ret
  all_goals exact ⟨rfl, rfl⟩
theorem info_sc : (Try.prog.info? 44).map (fun i => i.size) = some 2 := by kernel_rfl
theorem und_sc : (Try.prog.underlying 44).map (fun d => match d with | .struct _ => true | _ => false) = some true := by kernel_rfl
theorem run_load_sc {w : World} {g : Nat} {C : Array Value} (hg : w.heap[g]? = some (.cells C 44 (0, 0))) (hC : C.size = 2 := by rfl) : (loadVar 44 ⟨g, 0, none⟩).run Try.prog w = .ok (.agg C) w := by
  have hu := und_sc
  cases hq : Try.prog.underlying 44 with
  | none => rw [hq] at hu; cases hu
  | some d =>
    rw [hq] at hu
    refine run_loadVar_row w g _ _ C (0, 0) d hg hq ?_ (by rw [hC]; exact info_sc)
    cases d <;> simp_all
/-- A block of two cells that is written whole. -/
theorem box_facts {W : World} {b : Nat} {a : ByteArray} {t : Int} (h : W.heap[b]? = some (.cells #[.string a, .int .i64 t] 44 (0, 0))) :
    W.cell? ⟨b, 0, none⟩ = some (.string a) ∧ W.cell? ⟨b, 1, none⟩ = some (.int .i64 t) ∧ (∀ v, (W.setCell ⟨b, 0, none⟩ v).cell? ⟨b, 1, none⟩ = some (.int .i64 t)) ∧ (∀ i, W.frozen? ⟨b, i, none⟩ = false) ∧ (∀ v i, (W.setCell ⟨b, 0, none⟩ v).frozen? ⟨b, i, none⟩ = false) ∧ (∀ (a' : ByteArray) (t' : Int), ((W.setCell ⟨b, 0, none⟩ (.string a')).setCell ⟨b, 1, none⟩ (.int .i64 t')).heap[b]? = some (.cells #[.string a', .int .i64 t'] 44 (0, 0))) := by
  refine ⟨Lib.cell_of_heap h 0, Lib.cell_of_heap h 1, fun v => ?_, fun i => ?_, fun v i => ?_, fun a' t' => ?_⟩
  · rw [set_other _ (Or.inr (by omega))]
    exact Lib.cell_of_heap h 1
  · simp [World.frozen?, h]
  · simp [World.frozen?, Joins.block_setCell h v]
  · rw [Joins.block_setCell (i := 1) (Joins.block_setCell (i := 0) h (.string a')) (.int .i64 t')]
    rfl
theorem box_only {w W : World} {b : Nat} (h : Only [] w W) (hb : w.heap.size ≤ b) (u v : Value) : Only [] w ((W.setCell ⟨b, 0, none⟩ u).setCell ⟨b, 1, none⟩ v) := (h.set (p := ⟨b, 0, none⟩) (Or.inr hb) u).set (p := ⟨b, 1, none⟩) (Or.inr hb) v
theorem first_none {w : World} {f0 : Value} (hL : Calls Try.prog 20 #[f0] (w.alloc (.cells #[.string ⟨#[]⟩, .int .i64 0] 44)) fun e w' => e = .returned (.int .i64 0) ∧ w.alloc (.cells #[.string ⟨#[]⟩, .int .i64 0] 44) = w') :
    Calls Try.prog 19 #[f0] w fun e w' => e = .returned (.tuple #[.agg #[.string ⟨#[]⟩, .int .i64 0], .bool false]) ∧ Only [] w w' := by
  obtain ⟨b1, _, _⟩ := boxed1 w ⟨#[]⟩ 0
  have hgk := heap_alloc_new w (.cells #[.string ⟨#[]⟩, .int .i64 0] 44)
  have hle := Lib.hid (Nat.le_refl w.heap.size)
  go_enter Try.func19, Try.ntmps19
  go_upto_region 1 with (fail)
  generalize hW1 : w.alloc (.cells #[.string ⟨#[]⟩, .int .i64 0] 44) = W1 at *
  have hle' : Hid (∀ b, b = w.heap.size → w.heap.size ≤ b) := Lib.hid (fun b e => by omega)
  have hb0' := Lib.hid (hle'.out _ rfl)
  generalize hb0 : w.heap.size = b0 at *
  have hbe := Lib.hid hb0
  have hLH := Lib.hid hL
  have b1H := Lib.hid b1
  obtain ⟨g0, g1, g2, g3, g4, g5⟩ := box_facts hgk
  have g5H := Lib.hid g5
  clear hW1 hL b1 hgk hb0 g5
  go_wp2_with (go_at_call 20; ((with_reducible refine (hLH.out).mono ?_); rintro e w' ⟨rfl, rfl⟩))
  refine bodyPost_ret (v := .tuple #[.agg #[.string ⟨#[]⟩, .int .i64 0], .bool false]) ?_ rfl ⟨rfl, ?_⟩
  · rw [results_cell_tmp rfl]
    simp [asAddr, Result.andThen, run_load_sc (g5H.out ⟨#[]⟩ 0)]
  · exact box_only b1H.out (by rw [hbe.out]; exact Nat.le_refl _) _ _
theorem first_nil (w : World) : Calls Try.prog 19 #[.pointer none] w fun e w' => e = .returned (.tuple #[.agg #[.string ⟨#[]⟩, .int .i64 0], .bool false]) ∧ Only [] w w' := first_none (len_nil _)
theorem first_empty {w : World} {p : Nat} {O : List Nat} (hT : Tm w p O []) : Calls Try.prog 19 #[.pointer (some ⟨p, 0, none⟩)] w fun e w' => e = .returned (.tuple #[.agg #[.string ⟨#[]⟩, .int .i64 0], .bool false]) ∧ Only [] w w' :=
  first_none (len_any (hT.keep ((Only.refl [] w).alloc _) (by simp)))
theorem first_some {w : World} {p : Nat} {O : List Nat} {h : List Sc} (hT : Tm w p O h) {x : Sc} (hx : h[0]? = some x) : Calls Try.prog 19 #[.pointer (some ⟨p, 0, none⟩)] w fun e w' => e = .returned (.tuple #[scV x, .bool true]) ∧ Only [] w w' := by
  obtain ⟨b1, _, _⟩ := boxed1 w ⟨#[]⟩ 0
  have hgk := heap_alloc_new w (.cells #[.string ⟨#[]⟩, .int .i64 0] 44)
  have hT1 := hT.keep b1 (by simp)
  have hL := Lib.hid (len_any hT1)
  obtain ⟨hv, mv, h1, h2, h3, h4⟩ := hT1.heads
  obtain ⟨hi, _⟩ := List.getElem?_eq_some_iff.1 hx
  rcases h2.form with ⟨_, rfl⟩ | ⟨g, cap, rfl, _, _, _, hc⟩
  · simp at hx
  · have n1 : p ≠ w.heap.size := fun e => by have := hT.lt h4; omega
    have n2 : g ≠ w.heap.size := fun e => by have := hT.lt (h3 g rfl); omega
    have c0 : (w.alloc (.cells #[.string ⟨#[]⟩, .int .i64 0] 44)).cell? ⟨p, 0, none⟩ = some (.slice (some ⟨g, 0, none⟩) h.length cap) := Lib.cell_of_heap h1 0
    obtain ⟨c1, c2⟩ := hc 0 x hx
    have hix : ∀ w, Sem.run Try.prog (Instr.indexAt 27 (.slice (some ⟨g, 0, none⟩) h.length cap) (.int .i64 0)) w = .ok (.pointer (some ⟨g, 0, none⟩)) w := fun w => run_ixS g 0 h.length cap hi w
    obtain ⟨n, hnn⟩ : ∃ n, n = h.length := ⟨_, rfl⟩
    rw [← hnn] at c0 hix hi hL
    have hz : ((n : Nat) : Int) ≠ 0 := by omega
    have hzb : ((n : Int) == 0) = false := beq_false_of_ne hz
    have hlt : (0 : Int) < (n : Int) := by omega
    clear hc h1 h2 h3 h4 hT hT1 hx hi hnn
    obtain ⟨xa, xs⟩ := x
    unfold scV
    simp only [Nat.zero_mul, Nat.zero_add] at c1 c2
    go_enter Try.func19, Try.ntmps19
    go_upto_region 1 with (fail)
    generalize hW1 : w.alloc (.cells #[.string ⟨#[]⟩, .int .i64 0] 44) = W1 at *
    generalize hb0 : w.heap.size = b0 at *
    have hbe := Lib.hid hb0
    have b1H := Lib.hid b1
    obtain ⟨g0, g1, g2, g3, g4, g5⟩ := box_facts hgk
    have g5H := Lib.hid g5
    clear hW1 b1 hgk hb0 g5 hz
    go_wp2_with (go_at_call 20; ((with_reducible refine (hL.out).mono ?_); rintro e w' ⟨rfl, rfl⟩))
    refine bodyPost_ret (v := .tuple #[.agg #[.string xa, .int .i64 xs], .bool true]) ?_ rfl ⟨rfl, ?_⟩
    · rw [results_cell_tmp rfl]
      simp [asAddr, Result.andThen, run_load_sc (g5H.out xa xs)]
    · exact box_only b1H.out (by rw [hbe.out]; exact Nat.le_refl _) _ _
/-- What First tells. -/
def firstV (L : List Sc) : Value := match L[0]? with
  | none => .tuple #[.agg #[.string ⟨#[]⟩, .int .i64 0], .bool false]
  | some x => .tuple #[scV x, .bool true]
theorem first_any {w : World} {p : Nat} {O : List Nat} {h r : List Sc} (hT : Tm w p O h) (hr : HR h r) : Calls Try.prog 19 #[.pointer (some ⟨p, 0, none⟩)] w fun e w' => e = .returned (firstV r) ∧ Only [] w w' := by
  unfold firstV
  rw [← hr.first]
  cases hq : h[0]? with
  | none =>
    obtain rfl : h = [] := by
      cases h with
      | nil => rfl
      | cons a l => simp at hq
    exact first_empty hT
  | some x => exact first_some hT hq
end Go.Proofs.Ytbaghdfalhlhcaa
