/-
  What each write makes of the document's table; the walk of its Step. A table's shape.
-/
import Derived.Test.YtdldgiicblmknaaDoorZA

namespace Go.Proofs.YtdldgiicblmknaaDoor
open Go.RowKit

theorem ro_below {B : Nat} {w w' : World} (hb : Below w.heap.size w w') (hB : B ≤ w.heap.size) : RO B w w' := ⟨⟨hb.mono (Nat.zero_le _), fun k hk _ => hb.block k hk⟩, hb.mono hB⟩
theorem Rw.ne_head {B T : Nat} {w : World} {v : Value} {l : List (List ByteArray)} (h : Rw B w v l) {cs : Array Value} (hT : w.heap[T]? = some (.cells cs 31 (0, 0))) : v.ownBlock ≠ some T := fun hk => by
  obtain ⟨vs, h1, _⟩ := h
  obtain ⟨_, _, cur, hc⟩ := own_type h1 hk
  rw [hT] at hc
  cases hc
theorem Rw.block {B : Nat} {w : World} {v : Value} {l : List (List ByteArray)} (h : Rw B w v l) {g : Nat} (hg : v.ownBlock = some g) : B ≤ g ∧ g < w.heap.size ∧ ∃ cur, w.heap[g]? = some (.cells cur 78 (0, 0)) := by
  obtain ⟨vs, h1, _⟩ := h
  exact own_type h1 hg
variable {B T : Nat} {t : KT} {vo vn : Value} {w : World}
/-- A chain is set at a place of the old places, or of the new ones. -/
theorem RAt.setO (h : RAt B T t vo vn w) {g : Nat} (hg : vo.ownBlock = some g) (i : Nat) {u : Value} {c : List ByteArray} (hc : Ch B w u c) : RAt B T { t with old := t.old.set i c } vo vn (w.setCell ⟨g, i, none⟩ u) := by
  obtain ⟨_, hlt, cur, hcur⟩ := h.old.block hg
  have hne : g ≠ T := fun e => h.old.ne_head h.head (by rw [hg, e])
  exact ⟨(Below.heap_setCell w ⟨g, i, none⟩ u T (fun e => hne e.symm)).trans h.head, h.le, by simpa [World.setCell] using h.pos, h.old.put hg i hc, h.new.setFar (p := ⟨g, i, none⟩) hcur (by decide) (h.sep g hg) u, h.sep⟩
theorem RAt.setN (h : RAt B T t vo vn w) {g : Nat} (hg : vn.ownBlock = some g) (i : Nat) {u : Value} {c : List ByteArray} (hc : Ch B w u c) : RAt B T { t with new := t.new.set i c } vo vn (w.setCell ⟨g, i, none⟩ u) := by
  obtain ⟨_, hlt, cur, hcur⟩ := h.new.block hg
  have hne : g ≠ T := fun e => h.new.ne_head h.head (by rw [hg, e])
  exact ⟨(Below.heap_setCell w ⟨g, i, none⟩ u T (fun e => hne e.symm)).trans h.head, h.le, by simpa [World.setCell] using h.pos, h.old.setFar (p := ⟨g, i, none⟩) hcur (by decide) (fun hh => h.sep g hh hg) u, h.new.put hg i hc, h.sep⟩
theorem ro_row {v : Value} {l : List (List ByteArray)} (h : Rw B w v l) {g : Nat} (hg : v.ownBlock = some g) (i : Nat) (u : Value) : RO B w (w.setCell ⟨g, i, none⟩ u) := by
  obtain ⟨hb, _, cur, hcur⟩ := h.block hg
  exact (RO.refl B w).set (p := ⟨g, i, none⟩) hb (by show isRef w.heap[g]? = true; rw [hcur]; rfl) u
/-- The head's cells are set. -/
theorem RAt.head1 (h : RAt B T t vo vn w) {v' : Value} {l : List (List ByteArray)} (hl : Rw B w v' l) (hs : ∀ k, v'.ownBlock = some k → vn.ownBlock ≠ some k) : RAt B T { t with old := l } v' vn (w.setCell ⟨T, 1, none⟩ v') :=
  ⟨by have := h.head; simp [World.setCell, Array.getElem?_modify, this], h.le, by simpa [World.setCell] using h.pos, hl.setFar (p := ⟨T, 1, none⟩) h.head (by decide) (hl.ne_head h.head) v', h.new.setFar (p := ⟨T, 1, none⟩) h.head (by decide) (h.new.ne_head h.head) v', hs⟩
theorem RAt.head2 (h : RAt B T t vo vn w) {v' : Value} {l : List (List ByteArray)} (hl : Rw B w v' l) (hs : ∀ k, vo.ownBlock = some k → v'.ownBlock ≠ some k) : RAt B T { t with new := l } vo v' (w.setCell ⟨T, 2, none⟩ v') :=
  ⟨by have := h.head; simp [World.setCell, Array.getElem?_modify, this], h.le, by simpa [World.setCell] using h.pos, h.old.setFar (p := ⟨T, 2, none⟩) h.head (by decide) (h.old.ne_head h.head) v', hl.setFar (p := ⟨T, 2, none⟩) h.head (by decide) (hl.ne_head h.head) v', hs⟩
theorem RAt.head3 (h : RAt B T t vo vn w) (m : Int) : RAt B T { t with moved := m } vo vn (w.setCell ⟨T, 3, none⟩ (.int .i64 m)) :=
  ⟨by have := h.head; simp [World.setCell, Array.getElem?_modify, this], h.le, by simpa [World.setCell] using h.pos, h.old.setFar (p := ⟨T, 3, none⟩) h.head (by decide) (h.old.ne_head h.head) _, h.new.setFar (p := ⟨T, 3, none⟩) h.head (by decide) (h.new.ne_head h.head) _, h.sep⟩
theorem ro_head (h : RAt B T t vo vn w) (i : Nat) (v : Value) : RO B w (w.setCell ⟨T, i, none⟩ v) :=
  (RO.refl B w).set (p := ⟨T, i, none⟩) h.le (by show isRef w.heap[T]? = true; rw [h.head]; rfl) v
theorem Rw.nil (B : Nat) (w : World) : Rw B w (.slice none 0 0) [] := ⟨[], World.ownsRow_nil w B _ 1, fun i c h => by simp at h⟩

/-- The new places become the old ones. -/
theorem RAt.swap (h : RAt B T t vo vn w) : RAt B T { t with old := t.new, new := [], moved := -1 } vn (.slice none 0 0) (((w.setCell ⟨T, 1, none⟩ vn).setCell ⟨T, 2, none⟩ (.slice none 0 0)).setCell ⟨T, 3, none⟩ (.int .i64 (-1))) ∧ RO B w (((w.setCell ⟨T, 1, none⟩ vn).setCell ⟨T, 2, none⟩ (.slice none 0 0)).setCell ⟨T, 3, none⟩ (.int .i64 (-1))) := by
  have h0 := h.head
  have h1 : (w.setCell ⟨T, 1, none⟩ vn).heap[T]? = some (.cells #[.int .u64 t.seed, vn, vn, .int .i64 t.moved] 31 (0, 0)) := by simp [World.setCell, Array.getElem?_modify, h0]
  have h2 : ((w.setCell ⟨T, 1, none⟩ vn).setCell ⟨T, 2, none⟩ (.slice none 0 0)).heap[T]? = some (.cells #[.int .u64 t.seed, vn, .slice none 0 0, .int .i64 t.moved] 31 (0, 0)) := by
    generalize w.setCell ⟨T, 1, none⟩ vn = w1 at *
    simp [World.setCell, Array.getElem?_modify, h1]
  have h3 : (((w.setCell ⟨T, 1, none⟩ vn).setCell ⟨T, 2, none⟩ (.slice none 0 0)).setCell ⟨T, 3, none⟩ (.int .i64 (-1))).heap[T]? = some (.cells #[.int .u64 t.seed, vn, .slice none 0 0, .int .i64 (-1)] 31 (0, 0)) := by
    generalize (w.setCell ⟨T, 1, none⟩ vn).setCell ⟨T, 2, none⟩ (.slice none 0 0) = w2 at *
    simp [World.setCell, Array.getElem?_modify, h2]
  have r1 := h.new.setFar (p := ⟨T, 1, none⟩) h0 (by decide) (h.new.ne_head h0) vn
  have r2 := r1.setFar (p := ⟨T, 2, none⟩) h1 (by decide) (r1.ne_head h1) (.slice none 0 0)
  have r3 := r2.setFar (p := ⟨T, 3, none⟩) h2 (by decide) (r2.ne_head h2) (.int .i64 (-1))
  have hr : ∀ (cs : Array Value), isRef (some (.cells cs 31 (0, 0))) = true := fun _ => rfl
  refine ⟨⟨h3, h.le, by simpa [World.setCell] using h.pos, r3, ⟨[], World.ownsRow_nil _ B _ 1, fun i c hh => by simp at hh⟩, fun k _ hk => by cases hk⟩, ?_⟩
  exact (((RO.refl B w).set (p := ⟨T, 1, none⟩) h.le (by show isRef w.heap[T]? = true; rw [h0]; rfl) vn).set (p := ⟨T, 2, none⟩) h.le (by show isRef (w.setCell ⟨T, 1, none⟩ vn).heap[T]? = true; rw [h1]; rfl) _).set (p := ⟨T, 3, none⟩) h.le (by show isRef ((w.setCell ⟨T, 1, none⟩ vn).setCell ⟨T, 2, none⟩ (.slice none 0 0)).heap[T]? = true; rw [h2]; rfl) _
/-- A key comes ahead at its place, of the new places, of the old ones. -/
theorem with_new (h : RAt B T t vo vn w) (hU : U t.seed) (k : Nat) (hn : t.new.length = pw k) (hk : k ≤ 16) (key : ByteArray) (hs : key.size ≤ 1000) (x : Int) (hl : ∀ c ∈ t.new, c.length ≤ 1000000) :
    Calls Tryd.prog 52 #[.pointer (some ⟨T, 0, none⟩), vn, .agg #[.string key, .int .i64 x]] w fun e w' => e = .returned vn ∧ RAt B T { t with new := withK t.seed t.new key } vo vn w' ∧ RO B w w' ∧ ∀ u c, Ch B w u c → Ch B w' u c := by
  refine (with_any h.new h.cells.1 k hn hk hU key hs x hl h.pos).mono ?_
  rintro e w' ⟨rfl, w1, g, u, hg, hb, hc, rfl⟩
  have h1 := h.after hb
  obtain ⟨_, _, cur, hcur⟩ := h1.new.block hg
  exact ⟨rfl, h1.setN hg _ hc, (ro_below hb h.pos).trans (ro_row h1.new hg _ u), fun u' c' h' => (h'.same (rsame_below hb)).setFar (p := ⟨g, _, none⟩) hcur (by decide) u⟩
theorem with_old (h : RAt B T t vo vn w) (hU : U t.seed) (k : Nat) (hn : t.old.length = pw k) (hk : k ≤ 16) (key : ByteArray) (hs : key.size ≤ 1000) (x : Int) (hl : ∀ c ∈ t.old, c.length ≤ 1000000) :
    Calls Tryd.prog 52 #[.pointer (some ⟨T, 0, none⟩), vo, .agg #[.string key, .int .i64 x]] w fun e w' => e = .returned vo ∧ RAt B T { t with old := withK t.seed t.old key } vo vn w' ∧ RO B w w' ∧ ∀ u c, Ch B w u c → Ch B w' u c := by
  refine (with_any h.old h.cells.1 k hn hk hU key hs x hl h.pos).mono ?_
  rintro e w' ⟨rfl, w1, g, u, hg, hb, hc, rfl⟩
  have h1 := h.after hb
  obtain ⟨_, _, cur, hcur⟩ := h1.old.block hg
  exact ⟨rfl, h1.setO hg _ hc, (ro_below hb h.pos).trans (ro_row h1.old hg _ u), fun u' c' h' => (h'.same (rsame_below hb)).setFar (p := ⟨g, _, none⟩) hcur (by decide) u⟩
theorem withK_len (seed : Int) (l : List (List ByteArray)) (key : ByteArray) : (withK seed l key).length = l.length := by simp [withK]
theorem flat_set_len (l : List (List ByteArray)) (i : Nat) (hi : i < l.length) (c : List ByteArray) : (l.set i c).flatten.length + (l.getD i []).length = l.flatten.length + c.length := by
  induction l generalizing i with
  | nil => simp at hi
  | cons a l ih =>
    cases i with
    | zero => simp; omega
    | succ i =>
      have := ih i (by simpa using hi)
      simp only [List.set_cons_succ, List.flatten_cons, List.length_append, List.getD_cons_succ]
      omega
theorem withK_flat (seed : Int) (l : List (List ByteArray)) (key : ByteArray) (h : 0 < l.length) : (withK seed l key).flatten.length = l.flatten.length + 1 := by
  have hq := Nat.mod_lt (num seed key) h
  have := flat_set_len l _ hq (key :: l.getD (num seed key % l.length) [])
  unfold withK
  rw [List.length_cons] at this
  omega
theorem foldK (seed : Int) : ∀ (L : List ByteArray) (l : List (List ByteArray)), 0 < l.length → (L.foldl (withK seed) l).length = l.length ∧ (L.foldl (withK seed) l).flatten.length = l.flatten.length + L.length := by
  intro L
  induction L with
  | nil => intro l _; exact ⟨rfl, rfl⟩
  | cons e L ih =>
    intro l hl
    obtain ⟨h1, h2⟩ := ih (withK seed l e) (by rw [withK_len]; exact hl)
    exact ⟨by rw [List.foldl_cons, h1, withK_len], by rw [List.foldl_cons, h2, withK_flat seed l e hl, List.length_cons]; omega⟩
theorem mem_flat_len {l : List (List ByteArray)} {c : List ByteArray} (h : c ∈ l) : c.length ≤ l.flatten.length := by
  obtain ⟨i, hi⟩ := List.getElem?_of_mem h
  obtain ⟨h1, h2⟩ := List.getElem?_eq_some_iff.1 hi
  have h4 : l.flatten = (l.take i).flatten ++ (l.drop i).flatten := by rw [← List.flatten_append, List.take_append_drop]
  rw [h4, List.drop_eq_getElem_cons h1, h2]; simp; omega

theorem run_ixc (g q n cap : Nat) (hq : q < n) (w : World) : Sem.run Tryd.prog (Instr.indexAt 78 (.slice (some ⟨g, 0, none⟩) n cap) (.int .i64 (q : Int))) w = .ok (.pointer (some ⟨g, q * 2, none⟩)) w := by
  go_simp

set_option maxHeartbeats 4000000 in
theorem step_ref (h : RAt B T t vo vn w) (hk : KOk t) :
    Calls Tryd.prog 29 #[.pointer (some ⟨T, 0, none⟩)] w fun e w' => e = .returned (.bool (decide (0 ≤ t.moved))) ∧ ∃ vo' vn', RAt B T (stepK t) vo' vn' w' ∧ RO B w w' := by
  obtain ⟨c0, c1, c2, c3, cf⟩ := h.cells
  have hH := Lib.hid h
  rcases hk.s1 with ⟨hm, hn⟩ | ⟨hm0, hm1, k1, hk2, hk16, hnl⟩
  · have hst : stepK t = t := by unfold stepK; rw [if_pos (by omega)]
    rw [hst]
    rw [hm] at c3 ⊢
    clear h hk hm hst
    go_enter Tryd.func29, Tryd.ntmps29
    go_wp2_with fail
    go_ret
    exact ⟨rfl, vo, vn, hH.out, RO.refl _ _⟩
  · obtain ⟨m, hm⟩ := Int.eq_ofNat_of_zero_le hm0
    have hml : m < t.old.length := by omega
    obtain ⟨go, capo, u, curo, rfl, hgo0, hgo1, hcuro, hcello, hch⟩ := h.old.cell hml
    obtain ⟨Au, cpu, hue⟩ := hch.len
    obtain ⟨An, cpn, hvn⟩ := h.new.len
    subst hvn
    subst hue
    have hfzo : w.frozen? ⟨go, m, none⟩ = false := by simp [World.frozen?, hcuro]
    have hix := run_ix go m t.old.length capo hml
    have hd0 : decide (0 ≤ t.moved) = true := by simpa using hm0
    rw [hd0]
    have hdm : decide ((m : Int) < 0) = false := by simp
    rw [hm] at c3
    have hkH := Lib.hid hk
    have hchH := Lib.hid hch
    have hmH := Lib.hid (And.intro hm hml)
    have hold := Lib.hid (show t.old.getD t.moved.toNat [] = t.old.getD m [] by rw [hm]; rfl)
    clear h hk hm hml hm0 hm1 hch hd0
    generalize hL : t.old.getD m [] = L at *
    have hLH := Lib.hid hL
    clear hL
    generalize hol : t.old.length = ol at *
    have holH := Lib.hid hol
    clear hol
    go_enter Tryd.func29, Tryd.ntmps29
    go_upto_region 3 with fail
    go_region
    all_goals
      go_upto_region 4 with fail
      go_region
      all_goals
        have hR0 := hH.out.setO (g := go) rfl m (Ch.nil B w)
        have hC0 := hchH.out.setFar (p := ⟨go, m, none⟩) (by exact hcuro) (by decide) (.slice none 0 0)
        have hO0 := ro_row hH.out.old (g := go) rfl m (.slice none 0 0)
        have hR1 : Hid (RAt B T { t with old := t.old.set m [] } (.slice (some ⟨go, 0, none⟩) ol capo) (.slice An t.new.length cpn) (w.setCell ⟨go, m, none⟩ (.slice none 0 0)).drew.drew) := Lib.hid ((hR0.drewN 1).drewN 1)
        have hC1 : Hid (Ch B (w.setCell ⟨go, m, none⟩ (.slice none 0 0)).drew.drew (.slice Au L.length cpu) L) := Lib.hid ((hC0.same (rsame_drewN _ 1)).same (rsame_drewN _ 1))
        have hO1 : Hid (RO B w (w.setCell ⟨go, m, none⟩ (.slice none 0 0)).drew.drew) := Lib.hid ((hO0.drewN 1).drewN 1)
        clear hR0 hC0 hO0
        clear c0 c1 c2 c3 cf hcello hfzo hix hcuro hgo0 hgo1
        generalize (w.setCell ⟨go, m, none⟩ (.slice none 0 0)).drew.drew = W1 at *
        have hLk := Lib.hid (fun e (he : e ∈ L) => hkH.out.ks.1 (t.old.getD m []) (by rw [List.getD_eq_getElem?_getD, List.getElem?_eq_getElem (show m < t.old.length by rw [holH.out]; exact hmH.out.2)]; exact List.getElem_mem _) e (by rw [hLH.out]; exact he))
        have hLl : L.length ≤ t.old.flatten.length := by rw [← hLH.out]; exact mem_flat_len (by rw [List.getD_eq_getElem?_getD, List.getElem?_eq_getElem (show m < t.old.length by rw [holH.out]; exact hmH.out.2)]; exact List.getElem_mem _)
        have hct := hkH.out.ct
        have hnp : 0 < t.new.length := by rw [hnl]; exact pw_pos k1
        have hlim : Hid (∀ i, (∀ c ∈ (L.take i).foldl (withK t.seed) t.new, c.length ≤ 1000000) ∧ ((L.take i).foldl (withK t.seed) t.new).length = pw k1) := Lib.hid fun i => by
          obtain ⟨f1, f2⟩ := foldK t.seed (L.take i) t.new hnp
          refine ⟨fun c hc => ?_, by rw [f1, hnl]⟩
          have h1 := mem_flat_len hc
          rw [List.length_take] at f2
          omega
        have hLb : L.length ≤ 1000000 := by omega
        clear hct hnp hLl hnl
        go_wp2_with fail
        go_loopw [4] (fun s4 wr => ∃ i : Nat, i ≤ L.length ∧ s4 = .int .i64 i ∧ Hid (RAt B T { t with old := t.old.set m [], new := (L.take i).foldl (withK t.seed) t.new } (.slice (some ⟨go, 0, none⟩) ol capo) (.slice An t.new.length cpn) wr) ∧ Hid (Ch B wr (.slice Au L.length cpu) L) ∧ Hid (RO B w wr)) (fun s4 _ => L.length - (intOf s4).toNat)
        case atStart => exact ⟨0, by omega, rfl, hR1, hC1, hO1⟩
        case round =>
          obtain ⟨i, hi, rfl, hR, hC, hO⟩ := hrel
          by_cases hil : i < L.length
          · obtain ⟨e, he⟩ : ∃ e, L[i]? = some e := ⟨_, List.getElem?_eq_getElem hil⟩
            obtain ⟨g1, cp1, cur1, v1, heq, _, hg1, hcur1, d0, d1⟩ := hC.out.cell he
            rw [Nat.mul_comm] at d0 d1
            cases heq
            obtain ⟨c0, c1, c2, c3, cf⟩ := hR.out.cells
            have cf2 := cf 2
            have hixc := run_ixc g1 i L.length cpu hil
            have htk := Lib.hid (show L.take (i + 1) = L.take i ++ [e] by rw [List.take_add_one, he]; rfl)
            have hwi : Hid (∀ W, W = wr.drew → Calls Tryd.prog 52 #[.pointer (some ⟨T, 0, none⟩), .slice An t.new.length cpn, .agg #[.string e, .int .i64 v1]] W fun r w' => r = .returned (.slice An t.new.length cpn) ∧ RAt B T { t with old := t.old.set m [], new := (L.take (i + 1)).foldl (withK t.seed) t.new } (.slice (some ⟨go, 0, none⟩) ol capo) (.slice An t.new.length cpn) w' ∧ RO B W w' ∧ ∀ u c, Ch B W u c → Ch B w' u c) := Lib.hid (by
              rintro W rfl
              have h9 := with_new (hR.out.drewN 1) hkH.out.seed k1 (hlim.out i).2 hk16 e (hLk.out e (List.mem_of_getElem? he)) v1 (hlim.out i).1
              rw [htk.out, List.foldl_append]
              exact h9)
            have hilH := Lib.hid hil
            clear c0 c3 cf he hil hcur1 hg1
            go_upto_region 8 with fail
            go_region_law (go_simp; go_at_call 52; ((with_reducible refine (hwi.out _ rfl).mono ?_); rintro r w2 ⟨rfl, hR2, hO2, hC2⟩; have hC2H := Lib.hid (hC2 _ _ (hC.out.same (rsame_drewN wr 1))); obtain ⟨_, _, z2, _, zf⟩ := hR2.cells; have zf2 := zf 2; have hR2H := Lib.hid hR2; have hO2H := Lib.hid hO2; clear hR2 hO2 hC2 zf))
            all_goals
              have hR3 := Lib.hid (hR2H.out.head2 hR2H.out.new hR2H.out.sep)
              have hC3 := Lib.hid (hC2H.out.setFar (p := ⟨T, 2, none⟩) hR2H.out.head (by decide) (.slice An t.new.length cpn))
              have hO3 := Lib.hid (((hO.out.drewN 1).trans hO2H.out).trans (ro_head hR2H.out 2 (.slice An t.new.length cpn)))
              have hil2 := hilH.out
              go_wp2_with fail
              go_roundw
              case rel => exact ⟨i + 1, by omega, by go_num, hR3, hC3, hO3⟩
              case measure => simp [intOf]; omega
          · have hie : i = L.length := by omega
            subst hie
            have hR9 := hR.out
            rw [List.take_length] at hR9
            obtain ⟨c0, c1, c2, c3, cf⟩ := hR9.cells
            have cf3 := cf 3
            have hR9H := Lib.hid hR9
            have hml2 := hmH.out
            have hol2 : ol ≤ 65536 := by
              obtain ⟨k0, _, hk0, hl0⟩ := hkH.out.s0
              have := pw_le hk0
              rw [← holH.out, hl0]; exact this
            simp only [hml2.1] at c3
            clear hR hR9 cf
            go_upto_region 10 with fail
            have hRA : Hid (RAt B T { t with old := t.old.set m [], new := L.foldl (withK t.seed) t.new, moved := (m : Int) + 1 } (.slice (some ⟨go, 0, none⟩) ol capo) (.slice An t.new.length cpn) (wr.setCell ⟨T, 3, none⟩ (.int .i64 ((m : Int) + 1)))) := Lib.hid (hR9H.out.head3 ((m : Int) + 1))
            have hOA : Hid (RO B w (wr.setCell ⟨T, 3, none⟩ (.int .i64 ((m : Int) + 1)))) := Lib.hid (hO.out.trans (ro_head hR9H.out 3 _))
            clear c0 c1 c2 c3 cf3
            generalize (wr.setCell ⟨T, 3, none⟩ (.int .i64 ((m : Int) + 1))) = W3 at *
            obtain ⟨z0, z1, z2, z3, zf⟩ := hRA.out.cells
            have zf1 := zf 1
            have zf2 := zf 2
            have zf3 := zf 3
            clear zf
            by_cases hdn : m + 1 = ol
            · have hq1 : (((m : Int) + 1) == (ol : Int)) = true := by simp; omega
              have hq2 : decide (((m : Int) + 1) = (ol : Int)) = true := by simp; omega
              have hsk := Lib.hid (show stepK t = { t with old := L.foldl (withK t.seed) t.new, new := [], moved := -1 } by
                unfold stepK
                rw [if_neg (by rw [hml2.1]; omega), if_pos (by rw [holH.out, hml2.1]; omega), hold.out])
              have hsw := Lib.hid hRA.out.swap
              go_region
              all_goals
                go_wp2_with fail
                go_ret
                first
                  | exact ⟨rfl, ⟨_, _, by rw [hsk.out]; exact hsw.out.1.drewN 1⟩, (hOA.out.trans hsw.out.2).drewN 1⟩
                  | exact ⟨rfl, _, _, by rw [hsk.out]; exact hsw.out.1.drewN 1, (hOA.out.trans hsw.out.2).drewN 1⟩
            · have hq1 : (((m : Int) + 1) == (ol : Int)) = false := by simp; omega
              have hq2 : decide (((m : Int) + 1) = (ol : Int)) = false := by simp; omega
              have hsk := Lib.hid (show stepK t = { t with old := t.old.set m [], new := L.foldl (withK t.seed) t.new, moved := (m : Int) + 1 } by
                unfold stepK
                rw [if_neg (by rw [hml2.1]; omega), if_neg (by rw [holH.out, hml2.1]; omega), hold.out, hml2.1]
                rfl)
              go_region
              all_goals
                go_wp2_with fail
                go_ret
                first
                  | exact ⟨rfl, ⟨_, _, by rw [hsk.out]; exact hRA.out.drewN 1⟩, hOA.out.drewN 1⟩
                  | exact ⟨rfl, _, _, by rw [hsk.out]; exact hRA.out.drewN 1, hOA.out.drewN 1⟩

end Go.Proofs.YtdldgiicblmknaaDoor

