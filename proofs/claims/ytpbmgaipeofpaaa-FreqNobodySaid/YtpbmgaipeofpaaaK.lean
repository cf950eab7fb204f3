/-
  All: what it tells of an order that is none, of an empty one, of one with keys. Premises: an order as it lies, of at most a million keys.
-/
import Derived.Test.YtpbmgaipeofpaaaJ
namespace Go.Proofs.Ytpbmgaipeofpaaa
open Go.RowKit

attribute [local go_sem] Oper.semAt_some wide_fn wide_depth
theorem iter_empty {w : World} {rv : Value} (hL : ∀ W, Only [] w W → Calls Try.prog 33 #[rv] W fun e w' => e = .returned (.int .i64 0) ∧ W = w') {S : Nat → Prop} : Iter S w rv [] := by
  intro n l W0 J ho _ _ h0
  have hLH := Lib.hid (hL W0 ho)
  have hJH := Lib.hid h0
  clear hL h0
  refine callsIn_of_wp_defers Try.func30 rfl trivial ?_ rfl
  simp only [Try.ntmps30, List.size_toArray, List.length_cons, List.length_nil, Nat.reduceAdd, Nat.reduceSub, Array.replicate_succ, Array.replicate_zero, List.push_toArray, List.append_toArray, List.nil_append, List.cons_append]
  gi_wp2_with (gi_at_call 33; (with_reducible refine (callsIn_wide.2 hLH.out).mono ?_); rintro e w' ⟨rfl, rfl⟩)
  exact ⟨_, results_none rfl _ _ _, rfl, hJH.out, Below.refl _ _, fun _ _ => rfl⟩
theorem iter_ring {w : World} {p j g m room : Nat} {bs : Nds} {nx pv : Nat → Nat} {f : ByteArray → Option Nat} (hR : Rg w g m room bs nx pv f) (hp : w.cell? ⟨p, j, none⟩ = some (ptr g)) (hne : 0 < bs.length)
    (hL : ∀ W, Only [] w W → Calls Try.prog 33 #[hdp p j] W fun e w' => e = .returned (.int .i64 (bs.length : Int)) ∧ W = w') {S : Nat → Prop} (hS : ∀ k, S k → k < w.heap.size) (hbS : ∀ b ∈ g :: blk bs, S b) : Iter S w (hdp p j) (keysN bs) := by
  intro n l W0 J ho hJ hY h0
  refine walk_rounds (n := n) (l := l) (hR.raw.keep ho (by simp)) hR.lk hR.apart hne (cell_keep ho hp) (hL W0 ho) (fun k hk => Nat.lt_of_lt_of_le (hS k hk) ho.size) hbS J (fun pre W W' hj ho' => hJ pre W W' hj ⟨ho'.1, fun k h1 h2 h3 => ho'.2 k h1 (by
    have hgS := hbS g (by simp)
    simp only [List.mem_cons, List.not_mem_nil, or_false, not_or]
    exact ⟨fun e => h2 (e ▸ hgS), h3⟩)⟩) (fun pre x W1 hj hs hlen => hY pre x W1 hj hs hlen) h0
set_option maxHeartbeats 4000000 in
theorem all_iter {w : World} {rv : Value} {L : List ByteArray} (hI : Iter (· < w.heap.size) w rv L) (hl : L.length ≤ 1000000) (hL : Calls Try.prog 33 #[rv] w fun e w' => e = .returned (.int .i64 (L.length : Int)) ∧ w = w') :
    Calls Try.prog 32 #[rv] w fun e w' => ∃ v', e = .returned v' ∧ RowT w' w.heap.size v' L ∧ Only [] w w' := by
  have hmf : ∀ (fn : Fn) (first cap : Array Value) (w : World), (Instr.makeFunc fn first cap).run Try.prog w = .ok (.func fn first cap) w := fun _ _ _ _ => rfl
  obtain ⟨i0, hi, hz0, hz1, hz2⟩ := info_partsS info_str
  have hLH := Lib.hid hL
  have hIH := Lib.hid hI
  obtain ⟨N, hN⟩ : ∃ N, N = L.length := ⟨_, rfl⟩
  have hNH := Lib.hid hN
  rw [← hN] at hLH hl
  clear hN hL hI
  refine (callsIn_wide (n := 4)).1 ?_
  refine callsIn_of_wp_marks Try.func32 rfl trivial ?_ rfl
  simp only [Try.ntmps32, List.size_toArray, List.length_cons, List.length_nil, Nat.reduceAdd, Nat.reduceSub, Array.replicate_succ, Array.replicate_zero, List.push_toArray, List.append_toArray, List.nil_append, List.cons_append]
  gi_wp2_with (first
    | (gi_at_call 33; (with_reducible refine (callsIn_wide.2 hLH.out).mono ?_); rintro e w' ⟨rfl, rfl⟩)
    | (gi_at_make; refine wpListIn_make_own _ (o := ⟨some 7, _, _, _, _, _⟩) (by rfl) (.const (.int .i64 0)) (.tmp 6) 39 (by rfl) w.heap.size 9 i0 (.string ⟨#[]⟩) 1 Try.underlying39 hi hz0 hz1 .i64 .i64 (N : Int) N (by rfl) (by rfl) (by rfl) (by rw [hz2]; omega) (by unfold maxLen; omega) (Nat.le_refl _) ?_; intro w1 hown hgrow))
  have ho1 : Only [] w w1 := by simpa using grown_only hgrow
  have hr1 : RowT w1 w.heap.size (.slice (some ⟨w.heap.size, 0, none⟩) 0 N) [] := hown
  have hw1lt : w.heap.size < w1.heap.size := (hr1.lt w.heap.size rfl).2
  have ho2 : Only [] w1 (w1.alloc (.cells #[.slice (some ⟨w.heap.size, 0, none⟩) 0 N] 39 (0, 0))) := (Only.refl [] w1).alloc _
  refine range_walk (L := L) (v0 := .slice (some ⟨w.heap.size, 0, none⟩) 0 N) (b3 := w1.heap.size) rfl rfl hIH.out (only_nil' ho1 ho2) ho1.size (heap_alloc_new w1 _) (hr1.same ho2) (fun k hk => by have e : w.heap.size = k := Option.some.inj hk; omega)
    (fun x => { tmps := #[rv, undef, Value.slice none 0 0, Value.pointer (some { block := w1.heap.size, off := 0 }), .string x, rv, Value.int IntKind.i64 N, Value.slice (some { block := w.heap.size, off := 0 }) 0 N, rv, Value.func (Fn.func 30) #[rv] #[], .string x, undef, undef, undef, undef, undef], defers := [] }) ?assign ?body ?done
  case assign =>
    intro l x W K hK
    gi_wp2
    exact hK
  case body =>
    rintro l pre x v W hb hr hv hs hlen
    obtain ⟨A, c, hve⟩ := hr.len
    have hpl : pre.length ≤ 1000000 := by
      have := hNH.out
      simp at hlen
      omega
    have c0 : W.cell? ⟨w1.heap.size, 0, none⟩ = some v := Lib.cell_of_heap hb 0
    have hrH := Lib.hid hr
    have hbH := Lib.hid hb
    have hvH := Lib.hid hv
    have hsH := Lib.hid hs
    obtain ⟨b3, hb3⟩ : ∃ b3, b3 = w1.heap.size := ⟨_, rfl⟩
    rw [← hb3] at c0 hbH hvH ⊢
    have hplH := Lib.hid hpl
    have hoA := Lib.hid ((Only.refl [] W).alloc (.cells #[.string x] 9 (0, 0)))
    have hb3l : b3 < W.heap.size := some_lt hbH.out
    clear hr hb hv hs hlen hpl hb3
    subst hve
    generalize hpn : pre.length = pn at *
    have hpnH := Lib.hid hpn
    clear hpn
    have c0' := cell_past c0 (.cells #[.string x] 9 (0, 0))
    have hb3lH := Lib.hid hb3l
    clear hb3l
    gi_wp2_with (first
      | (gi_at_builtin; refine wpListIn_append_rowT (o := ⟨some 14, _, _, _, _, _⟩) (by rfl) (.tmp 11) (.tmp 13) (by rfl) w.heap.size W.heap.size (.slice A pn c) (.slice (some ⟨W.heap.size, 0, none⟩) 1 1) pre [x] (by rfl) (by rfl) (hrH.out.same hoA.out) (rowT_one W x (Nat.le_refl _)) (by have := hplH.out; have := hpnH.out; simp; omega) (by have := hsH.out; have := hoA.out.size; omega) ?_ (by simp); intro v7 w7 hR7 hO7 hv7; obtain ⟨A7, c7, hve7⟩ := hR7.len; generalize (pre ++ [x]).length = n7 at hve7; subst hve7; have hb7 := hO7.keep (hoA.out.keep hbH.out (by simp)) (fun hm => hvH.out b3 (by simpa using hm) rfl); have d7 := Lib.cell_of_heap hb7 0; have z7 := block_frozen (i := 0) hb7; have hb7H := Lib.hid hb7; have hR7H := Lib.hid hR7; have hO7H := Lib.hid hO7; have hv7H := Lib.hid hv7; clear hb7 hR7 hO7 hv7))
    have hbl := hb3lH.out
    have hne7 : ∀ k, (Value.slice A7 n7 c7).ownBlock = some k → (Value.slice A pn c).ownBlock = some k ∨ W.heap.size ≤ k := fun k hk => by
      rcases hv7H.out with e | e
      · rw [e] at hk
        exact Or.inl hk
      · rw [e] at hk
        have := Option.some.inj hk
        rw [World.size_alloc] at this
        exact Or.inr (by omega)
    refine ⟨_, by rw [Joins.block_setCell hb7H.out]; rfl, hR7H.out.at (fun k hk => set_heap _ _ _ _ (fun e => ?_)), hne7, ?_⟩
    · rcases hne7 k hk with h1 | h1
      · exact hvH.out k h1 e
      · omega
    · exact ((hoA.out.mono (by simp)).trans hO7H.out (fun x hx => Or.inl (List.mem_cons_of_mem _ hx))).set (p := ⟨b3, 0, none⟩) (Or.inl (by simp)) _
  case done =>
    rintro D v W hD hK hb hr hv ho3
    have c0 : W.cell? ⟨w1.heap.size, 0, none⟩ = some v := Lib.cell_of_heap hb 0
    have hrH := Lib.hid hr
    have hvH := Lib.hid hv
    have hDH := Lib.hid hD
    have ho3H := Lib.hid ho3
    clear hr hv hD ho3
    gi_wp2
    refine ⟨by simp, .inl ⟨_, _, rfl, run_takeDeferred hK, ?_⟩⟩
    refine ⟨_, results_tmp rfl _ _ _, _, rfl, hrH.out.at (fun k hk => World.putObj_heap_other (hvH.out k hk)), ho3H.out.putObj (Or.inr ?_) _⟩
    have h1 := hDH.out
    have h2 := ho1.size
    rw [World.size_alloc] at h1
    omega
end Go.Proofs.Ytpbmgaipeofpaaa
