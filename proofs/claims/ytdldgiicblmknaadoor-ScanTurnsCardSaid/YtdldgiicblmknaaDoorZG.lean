/-
  The walk of the document's Put. A table's shape.
-/
import Derived.Test.YtdldgiicblmknaaDoorZD
import Derived.OwnWalk
import Derived.Test.YtdldgiicblmknaaDoorZC

namespace Go.Proofs.YtdldgiicblmknaaDoor
open Go.RowKit

def rowObj (n : Nat) : Obj := .cells (List.replicate n (Value.slice none 0 0)).toArray 78
theorem info_row : (Tryd.prog.info? 78).map (fun i => (i.zero, i.size, i.bytes)) = some (some (.slice none 0 0), 1, 24) := by kernel_rfl
theorem made_rows (n : Nat) : madeCells (Value.slice none 0 0).cells (n * 1) = (List.replicate n (Value.slice none 0 0)).toArray := by
  apply Array.ext
  · simp [madeCells]
  · intro i h1 h2
    simp [madeCells]
    show (#[Value.slice none 0 0] : Array Value)[i % 1]! = Value.slice none 0 0
    rw [Nat.mod_one]
    rfl
theorem run_rows (n : Nat) (hn : n ≤ 131072) (w : World) : (Instr.makeSlice 29 (.int .i64 (n : Int)) (.int .i64 (n : Int))).run Tryd.prog w = .ok (.slice (some ⟨w.heap.size, 0, none⟩) n n) (w.alloc (rowObj n)) := by
  obtain ⟨i, hi, h0, h1, h2⟩ := info_parts info_row
  have hb : (i.bytes : Int) * (n : Int) ≤ 281474976710656 := by rw [h2]; omega
  have := run_make (P := Tryd.prog) w 29 78 i (.slice none 0 0) Tryd.underlying29 hi h0 .i64 .i64 n n (by omega) (by omega) hb (by omega)
  rw [h1] at this
  simp only [Int.toNat_natCast] at this
  rw [this, made_rows]
  rfl
theorem Rw.made {B : Nat} (w : World) (hB : B ≤ w.heap.size) (n : Nat) (hn : n ≤ 131072) : Rw B (w.alloc (rowObj n)) (.slice (some ⟨w.heap.size, 0, none⟩) n n) (List.replicate n []) := by
  refine ⟨List.replicate n (.slice none 0 0), ?_, fun i c hc => ?_⟩
  · rw [List.length_replicate]
    exact ⟨by simp, Or.inr ⟨w.heap.size, n, _, rfl, hB, heap_alloc_new w _, Nat.le_refl _, by unfold maxLen; omega, by simp, by simp⟩⟩
  · have hlt := (List.getElem?_eq_some_iff.1 hc).1
    rw [List.length_replicate] at hlt
    have : c = [] := List.eq_of_mem_replicate (List.mem_of_getElem? hc)
    subst this
    exact ⟨.slice none 0 0, by simp [hlt], Ch.nil B _⟩
theorem kok_with {t : KT} (h : KOk t) (key : ByteArray) (hs : key.size ≤ 1000) (hc : cntK t + 1 ≤ 1000000) : KOk { t with old := withK t.seed t.old key } := by
  obtain ⟨k, hk2, hk16, hl⟩ := h.s0
  have hp : 0 < t.old.length := by rw [hl]; exact pw_pos k
  refine ⟨h.seed, ⟨k, hk2, hk16, by show (withK t.seed t.old key).length = _; rw [withK_len]; exact hl⟩, by show _ ∨ (_ ∧ t.moved < ((withK t.seed t.old key).length : Int) ∧ _); rw [withK_len]; exact h.s1, ⟨fun c hcm x hx => ?_, h.ks.2⟩, ?_⟩
  · unfold withK at hcm
    rcases List.mem_or_eq_of_mem_set hcm with h1 | h1
    · exact h.ks.1 c h1 x hx
    · subst h1
      rcases List.mem_cons.1 hx with rfl | hx
      · exact hs
      · have hq := Nat.mod_lt (num t.seed key) hp
        exact h.ks.1 _ (by rw [List.getD_eq_getElem?_getD, List.getElem?_eq_getElem hq]; exact List.getElem_mem hq) x hx
  · show (withK t.seed t.old key).flatten.length + _ ≤ _
    rw [withK_flat _ _ _ hp]
    unfold cntK at hc
    show t.old.flatten.length + 1 + t.new.flatten.length ≤ 1000000
    omega
theorem alloc_set (w : World) (o : Obj) (p : Addr) (v : Value) (h : p.block < w.heap.size) : (w.alloc o).setCell p v = (w.setCell p v).alloc o := by
  have hh : (w.heap.push o).modify p.block (fun x => match x with | .cells c elem frozen => .cells (if p.spot.isSome then c else c.setIfInBounds p.off v) elem frozen | x => x) = (w.heap.modify p.block (fun x => match x with | .cells c elem frozen => .cells (if p.spot.isSome then c else c.setIfInBounds p.off v) elem frozen | x => x)).push o := by
    apply Array.ext
    · simp
    · intro i h1 h2
      simp only [Array.getElem_modify, Array.getElem_push, Array.size_modify]
      by_cases hi : i < w.heap.size
      · simp [hi]
      · have : p.block ≠ i := by omega
        simp [hi, this]
  unfold World.setCell World.alloc
  simp only [World.mk.injEq, and_self, and_true]
  exact hh
variable {B T : Nat} {t : KT} {vo vn : Value} {w : World}
/-- A number is set in a chain. -/
theorem RAt.setV (h : RAt B T t vo vn w) {g : Nat} {cs : Array Value} {fz : Nat × Nat} (hg : w.heap[g]? = some (.cells cs 80 fz)) (j : Nat) (x : Int) : RAt B T t vo vn (w.setCell ⟨g, 2 * j + 1, none⟩ (.int .i64 x)) := by
  have hne : T ≠ g := fun e => by
    have hh := h.head
    rw [e, hg] at hh
    cases hh
  exact ⟨(Below.heap_setCell w ⟨g, 2 * j + 1, none⟩ _ T hne).trans h.head, h.le, by simpa [World.setCell] using h.pos, h.old.setV hg j x, h.new.setV hg j x, h.sep⟩
theorem ro_val {g : Nat} {cs : Array Value} {fz : Nat × Nat} (hB : B ≤ g) (hg : w.heap[g]? = some (.cells cs 80 fz)) (i : Nat) (u : Value) : RO B w (w.setCell ⟨g, i, none⟩ u) :=
  (RO.refl B w).set (p := ⟨g, i, none⟩) hB (by show isRef w.heap[g]? = true; rw [hg]; rfl) u
theorem inR_has {c : List ByteArray} {key : ByteArray} {r : Int} (h : InR c key r) : (∃ j : Nat, r = (j : Int) ∧ c[j]? = some key ∧ key ∉ c.take j ∧ hasB c key = true) ∨ (r = -1 ∧ hasB c key = false) := by
  rcases h with ⟨j, h1, h2, h3⟩ | ⟨h1, h2⟩
  · exact Or.inl ⟨j, h1, h2, h3, hasB_mem.2 (List.mem_of_getElem? h2)⟩
  · refine Or.inr ⟨h1, ?_⟩
    cases hh : hasB c key with
    | false => rfl
    | true => exact absurd (hasB_mem.1 hh) h2

set_option maxHeartbeats 4000000 in
theorem put_ref (h : RAt B T t vo vn w) (hk : KOk t) (hks : KOk (stepK t)) (key : ByteArray) (hs : key.size ≤ 1000) (x : Int) (hcn : cntK (stepK t) + 1 ≤ 1000000) :
    Calls Tryd.prog 27 #[.pointer (some ⟨T, 0, none⟩), .string key, .int .i64 x] w fun e w' => ∃ b : Bool, e = .returned (.bool b) ∧ ∃ vo' vn', RAt B T (putK t key) vo' vn' w' ∧ RO B w w' := by
  have hst := Lib.hid (step_ref h hk)
  unfold putK
  clear h hk
  generalize hsd : stepK t = s at *
  clear hsd
  obtain ⟨k0, hk2, hk16, hl0⟩ := hks.s0
  have hpo : plO s key < s.old.length := Nat.mod_lt _ (by rw [hl0]; exact pw_pos k0)
  go_enter Tryd.func27, Tryd.ntmps27
  go_upto_region 2 with (go_at_call 29; ((with_reducible refine (hst.out).mono ?_); rintro r w1 ⟨rfl, vo1, vn1, hR, hO⟩))
  obtain ⟨c0, c1, c2, c3, cf⟩ := hR.cells
  obtain ⟨go, capo, u, curo, rfl, hgo0, hgo1, hcuro, hcello, hch⟩ := hR.old.cell hpo
  obtain ⟨An, cpn, rfl⟩ := hR.new.len
  obtain ⟨Au, cpu, rfl⟩ := hch.len
  have hpl := Lib.hid (rkey_place T s.seed key (some ⟨go, 0, none⟩) s.old.length capo k0 hl0 hk16 hks.seed hs w1 c0)
  have hct := hks.ct
  have hcl : (s.old.getD (plO s key) []).length ≤ 1000000 := by
    have := mem_flat_len (l := s.old) (c := s.old.getD (plO s key) []) (by rw [List.getD_eq_getElem?_getD, List.getElem?_eq_getElem hpo]; exact List.getElem_mem hpo)
    omega
  have hin := Lib.hid (rin_any hch key hcl)
  have hRH := Lib.hid hR
  have hOH := Lib.hid hO
  have hchH := Lib.hid hch
  have hksH := Lib.hid hks
  have hp1 : Hid (put1 s key = if hasB (s.old.getD (plO s key) []) key = true then s else if s.moved < 0 then (if s.old.length < (withK s.seed s.old key).flatten.length + s.new.flatten.length ∧ s.old.length < 65536 then { s with old := withK s.seed s.old key, new := List.replicate (2 * s.old.length) [], moved := 0 } else { s with old := withK s.seed s.old key }) else if hasB (s.new.getD (plN s key) []) key = true then s else { s with new := withK s.seed s.new key }) := Lib.hid rfl
  rw [show num s.seed key % s.old.length = plO s key from rfl] at hpl
  have hl0H := Lib.hid hl0
  have hlo := pw_le hk16
  rw [← hl0] at hlo
  clear hR hO hch hks hst hl0 hct
  generalize hci : s.old.getD (plO s key) [] = ci at *
  generalize hpi : plO s key = pi at *
  generalize hol : s.old.length = ol at *
  have hix := run_ix go pi ol capo hpo
  have hpiH := Lib.hid hpi
  have holH := Lib.hid hol
  have hciH := Lib.hid hci
  have hpoH := Lib.hid hpo
  clear hpo hpi hol hci
  go_upto_region 4 with (first
    | (go_at_call 50; ((with_reducible refine (hpl.out).mono ?_); rintro r w2 ⟨rfl, rfl⟩))
    | (go_at_call 51; ((with_reducible refine (hin.out).mono ?_); rintro r w2 ⟨ri, rfl, hri, rfl⟩)))
  rcases inR_has hri with ⟨j, rfl, hj1, hj2, hj3⟩ | ⟨rfl, hj3⟩
  · obtain ⟨g1, cp1, cur1, v1, heq, hg1b, hg1, hcur1, d0, d1⟩ := hchH.out.cell hj1
    cases heq
    have hjl : j < ci.length := (List.getElem?_eq_some_iff.1 hj1).1
    have hd : decide ((0 : Int) ≤ (j : Int)) = true := by simp
    have hfz : w1.frozen? ⟨g1, j * 2 + 1, none⟩ = false := by simp [World.frozen?, hcur1]
    rw [Nat.mul_comm] at d1
    have hres := Lib.hid (hRH.out.setV hcur1 j x)
    have hro := Lib.hid (hOH.out.trans (ro_val hg1b hcur1 (2 * j + 1) (.int .i64 x)))
    rw [Nat.mul_comm 2 j] at hres hro
    have hp2 : Hid (put1 s key = s) := Lib.hid (by rw [hp1.out, if_pos hj3])
    have hixc := run_ixc g1 j ci.length cpu hjl
    clear hp1 hcur1 hri hj1 hj2 c0 c2 c3 cf hcuro hjl
    go_wp2_with fail
    go_ret
    first
      | exact ⟨false, rfl, _, _, by rw [hp2.out]; exact hres.out, hro.out⟩
      | (rw [hp2.out]; exact ⟨⟨_, _, hres.out⟩, hro.out⟩)
      | (rw [hp2.out]; exact ⟨Or.inl rfl, ⟨_, _, hres.out⟩, hro.out⟩)
  · have hdm1 : decide ((0 : Int) ≤ -1) = false := by decide
    rw [if_neg (by rw [hj3]; decide)] at hp1
    rcases hksH.out.s1 with ⟨hm, hnn⟩ | ⟨hm0, hm1, k1, h2k1, h16k1, hl1⟩
    · have hq1 : decide ((0 : Int) ≤ s.moved) = false := by simp; omega
      have hwo := with_old hRH.out hksH.out.seed k0 (by rw [holH.out]; exact hl0H.out) hk16 key hs x (fun c hc => by have := mem_flat_len hc; have := hksH.out.ct; omega)
      have hwoH := Lib.hid hwo
      have hk2H := Lib.hid (kok_with hksH.out key hs hcn)
      have hp2 : Hid (put1 s key = if ol < cntK { s with old := withK s.seed s.old key } ∧ ol < 65536 then { s with old := withK s.seed s.old key, new := List.replicate (2 * ol) [], moved := 0 } else { s with old := withK s.seed s.old key }) := Lib.hid (by rw [hp1.out, if_pos (by omega)]; rfl)
      clear hwo hp1 hri hcuro hix
      go_upto_region 16 with (go_at_call 52; ((with_reducible refine (hwoH.out).mono ?_); rintro r w2 ⟨rfl, hR2, hO2, _⟩; obtain ⟨e0, e1, e2, e3, ef⟩ := hR2.cells; have ef1 := ef 1; have hR2H := Lib.hid hR2; have hO2H := Lib.hid hO2; clear hR2 hO2 ef))
      have hR3 := Lib.hid (hR2H.out.head1 hR2H.out.old hR2H.out.sep)
      have hO3 := Lib.hid ((hOH.out.trans hO2H.out).trans (ro_head hR2H.out 1 (.slice (some ⟨go, 0, none⟩) ol capo)))
      clear e0 e1 e2 e3 ef1 c0 c1 c2 c3 cf hR2H hO2H hcello
      generalize w2.setCell ⟨T, 1, none⟩ (.slice (some ⟨go, 0, none⟩) ol capo) = W2 at *
      obtain ⟨e0, e1, e2, e3, ef⟩ := hR3.out.cells
      have hsl : (withK s.seed s.old key).length = ol := by rw [withK_len, holH.out]
      have hR4 : Hid (RAt B T { s with old := withK s.seed s.old key } (.slice (some ⟨go, 0, none⟩) ol capo) (.slice An s.new.length cpn) W2) := Lib.hid hR3.out
      have hlen : Hid (∀ W, Below W2.heap.size W2 W → Calls Tryd.prog 53 #[.pointer (some ⟨T, 0, none⟩)] W fun e w' => e = .returned (.int .i64 (cntK { s with old := withK s.seed s.old key } : Nat)) ∧ Below W2.heap.size W2 w') := Lib.hid fun W hb => by
        refine (len_ref (hR4.out.after hb) hk2H.out).mono ?_
        rintro e w' ⟨rfl, hb'⟩
        exact ⟨rfl, onB hb hb' hb.size⟩
      have hsiz : Hid (∀ W, Below W2.heap.size W2 W → Calls Tryd.prog 35 #[.pointer (some ⟨T, 0, none⟩)] W fun e w' => e = .returned (.int .i64 (k0 : Nat)) ∧ W = w') := Lib.hid fun W hb => size_ref (hR4.out.after hb) k0 hk16 (by show (withK s.seed s.old key).length = _; rw [hsl]; exact hl0H.out)
      have hcb : cntK { s with old := withK s.seed s.old key } ≤ 1000000 := hk2H.out.ct
      have hmk : ∀ w, (Instr.makeSlice 29 (.int .i64 (2 * (ol : Int))) (.int .i64 (2 * (ol : Int)))).run Tryd.prog w = .ok (.slice (some ⟨w.heap.size, 0, none⟩) (2 * ol) (2 * ol)) (w.alloc (rowObj (2 * ol))) := fun w => by
        have := run_rows (2 * ol) (by omega) w
        rw [Int.natCast_mul] at this
        exact this
      have h65 : ol < 65536 ↔ k0 < 16 := by
        rw [hl0H.out]
        constructor
        · intro hh
          rcases Nat.lt_or_ge k0 16 with h1 | h1
          · exact h1
          · have : k0 = 16 := by omega
            subst this
            exact absurd hh (by decide)
        · intro hh; exact Nat.lt_of_lt_of_le (pw_lt hh) (by decide)
      generalize hN : cntK { s with old := withK s.seed s.old key } = N at *
      clear hN hsl e0 e2 e3
      have h65H := Lib.hid h65
      clear h65
      by_cases hbig : ol < N ∧ k0 < 16
      · have hb1 : decide ((ol : Int) < (N : Int)) = true := by simp; omega
        have hb2 : decide ((k0 : Int) < 16) = true := by simp; omega
        have hp3 := Lib.hid (show put1 s key = { s with old := withK s.seed s.old key, new := List.replicate (2 * ol) [], moved := 0 } by rw [hp2.out, if_pos ⟨hbig.1, h65H.out.2 hbig.2⟩])
        clear hp2
        go_region_law (first
          | (go_simp; go_at_call 53; ((with_reducible refine (hlen.out _ (by first | exact (Below.refl _ _).drew | exact Below.refl _ _ | assumption)).mono ?_); rintro r w5 ⟨rfl, hb5⟩; obtain ⟨_, f1, f2, f3, ff⟩ := (hR4.out.after hb5).cells; have hT5 := some_lt (hR4.out.after hb5).head; have ff2 := ff 2; have ff3 := ff 3; clear ff))
          | (go_simp; go_at_call 35; ((with_reducible refine (hsiz.out _ (by first | exact (Below.refl _ _).drew | exact Below.refl _ _ | assumption)).mono ?_); rintro r w6 ⟨rfl, rfl⟩)))
        all_goals
          have hR5 := hR4.out.after hb5
          have hR6 := hR5.after ((Below.refl w5.heap.size w5).alloc (Nat.le_refl _) (rowObj (2 * ol)))
          have hR7 := Lib.hid ((hR6.head2 (Rw.made w5 hR5.pos (2 * ol) (by omega)) (fun k hk hh => by have h1 := (hR5.old.block hk).2.1; have h2 : w5.heap.size = k := (by simpa [Value.ownBlock] using hh); omega)).head3 0)
          have hO7 := Lib.hid (((hO3.out.trans (ro_below hb5 hR4.out.pos)).alloc hR5.pos (rowObj (2 * ol))).trans ((ro_head hR6 2 (.slice (some ⟨w5.heap.size, 0, none⟩) (2 * ol) (2 * ol))).trans (ro_head (hR6.head2 (Rw.made w5 hR5.pos (2 * ol) (by omega)) (fun k hk hh => by have h1 := (hR5.old.block hk).2.1; have h2 : w5.heap.size = k := (by simpa [Value.ownBlock] using hh); omega)) 3 (.int .i64 0))))
          rw [alloc_set w5 _ ⟨T, 2, none⟩ _ hT5, alloc_set (w5.setCell ⟨T, 2, none⟩ _) _ ⟨T, 3, none⟩ _ (by simpa [World.setCell] using hT5)] at hR7 hO7
          clear hR5 hR6
          go_wp2_with fail
          go_ret
          first
            | exact ⟨true, rfl, _, _, by rw [hp3.out]; exact hR7.out, hO7.out⟩
            | (rw [hp3.out]; exact ⟨Or.inr rfl, ⟨_, _, hR7.out⟩, hO7.out⟩)
            | trace_state
      · have hp3 := Lib.hid (show put1 s key = { s with old := withK s.seed s.old key } by rw [hp2.out, if_neg (fun hh => hbig ⟨hh.1, h65H.out.1 hh.2⟩)])
        clear hp2
        by_cases hb0 : ol < N
        · have hb1 : decide ((ol : Int) < (N : Int)) = true := by simp; omega
          have hb2 : decide ((k0 : Int) < 16) = false := by simp; omega
          go_region_law (first
            | (go_simp; go_at_call 53; ((with_reducible refine (hlen.out _ (by first | exact (Below.refl _ _).drew | exact Below.refl _ _ | assumption)).mono ?_); rintro r w5 ⟨rfl, hb5⟩; obtain ⟨_, f1, _, _, _⟩ := (hR4.out.after hb5).cells))
            | (go_simp; go_at_call 35; ((with_reducible refine (hsiz.out _ (by first | exact (Below.refl _ _).drew | exact Below.refl _ _ | assumption)).mono ?_); rintro r w6 ⟨rfl, rfl⟩)))
          all_goals
            have hR7 := Lib.hid (hR4.out.after hb5)
            have hO7 := Lib.hid (hO3.out.trans (ro_below hb5 hR4.out.pos))
            go_wp2_with fail
            go_ret
            first
              | exact ⟨true, rfl, _, _, by rw [hp3.out]; exact hR7.out, hO7.out⟩
              | (rw [hp3.out]; exact ⟨Or.inr rfl, ⟨_, _, hR7.out⟩, hO7.out⟩)
              | trace_state
        · have hb1 : decide ((ol : Int) < (N : Int)) = false := by simp; omega
          first
          | go_region_law (first
              | (go_simp; go_at_call 53; ((with_reducible refine (hlen.out _ (by first | exact (Below.refl _ _).drew | exact Below.refl _ _ | assumption)).mono ?_); rintro r w5 ⟨rfl, hb5⟩; obtain ⟨_, f1, _, _, _⟩ := (hR4.out.after hb5).cells))
              | (go_simp; go_at_call 35; ((with_reducible refine (hsiz.out _ (by first | exact (Below.refl _ _).drew | exact Below.refl _ _ | assumption)).mono ?_); rintro r w6 ⟨rfl, rfl⟩)))
          | fail
          all_goals
            have hR7 := Lib.hid (hR4.out.after hb5)
            have hO7 := Lib.hid (hO3.out.trans (ro_below hb5 hR4.out.pos))
            go_wp2_with fail
            go_ret
            first
              | exact ⟨true, rfl, _, _, by rw [hp3.out]; exact hR7.out, hO7.out⟩
              | (rw [hp3.out]; exact ⟨Or.inr rfl, ⟨_, _, hR7.out⟩, hO7.out⟩)
              | trace_state
    · have hq1 : decide ((0 : Int) ≤ s.moved) = true := by simpa using hm0
      have hpn : plN s key < s.new.length := Nat.mod_lt _ (by rw [hl1]; exact pw_pos k1)
      obtain ⟨gn, capn, un, curn, heqn, hgn0, hgn1, hcurn, hcelln, hchn⟩ := hRH.out.new.cell hpn
      obtain ⟨Aun, cpun, rfl⟩ := hchn.len
      cases heqn
      have hpl2 := Lib.hid (rkey_place T s.seed key (some ⟨gn, 0, none⟩) s.new.length cpn k1 hl1 h16k1 hksH.out.seed hs w1 c0)
      rw [show num s.seed key % s.new.length = plN s key from rfl] at hpl2
      have hcl2 : (s.new.getD (plN s key) []).length ≤ 1000000 := by
        have := mem_flat_len (l := s.new) (c := s.new.getD (plN s key) []) (by rw [List.getD_eq_getElem?_getD, List.getElem?_eq_getElem hpn]; exact List.getElem_mem hpn)
        have := hksH.out.ct
        omega
      have hin2 := Lib.hid (rin_any hchn key hcl2)
      have hchnH := Lib.hid hchn
      have hwn := Lib.hid (with_new hRH.out hksH.out.seed k1 hl1 h16k1 key hs x (fun c hc => by have := mem_flat_len hc; have := hksH.out.ct; omega))
      have hp2 : Hid (put1 s key = if hasB (s.new.getD (plN s key) []) key = true then s else { s with new := withK s.seed s.new key }) := Lib.hid (by rw [hp1.out, if_neg (by omega)])
      clear hp1 hri hcuro hchn hl1
      generalize hcn2 : s.new.getD (plN s key) [] = cn at *
      generalize hpn2 : plN s key = pn at *
      have hixn := run_ix gn pn s.new.length cpn hpn
      have hx1 := Lib.hid hcn2
      have hx2 := Lib.hid hpn2
      clear hcn2 hpn2 hpn hix
      go_upto_region 10 with (first
        | (go_at_call 50; ((with_reducible refine (hpl2.out).mono ?_); rintro r w2 ⟨rfl, rfl⟩))
        | (go_at_call 51; ((with_reducible refine (hin2.out).mono ?_); rintro r w2 ⟨rj, rfl, hrj, rfl⟩)))
      rcases inR_has hrj with ⟨j, rfl, hj1, hj2, hj4⟩ | ⟨rfl, hj4⟩
      · obtain ⟨g1, cp1, cur1, v1, heq, hg1b, hg1, hcur1, d0, d1⟩ := hchnH.out.cell hj1
        cases heq
        have hjl : j < cn.length := (List.getElem?_eq_some_iff.1 hj1).1
        have hd : decide ((0 : Int) ≤ (j : Int)) = true := by simp
        have hfz : w1.frozen? ⟨g1, j * 2 + 1, none⟩ = false := by simp [World.frozen?, hcur1]
        rw [Nat.mul_comm] at d1
        have hres := Lib.hid (hRH.out.setV hcur1 j x)
        have hro := Lib.hid (hOH.out.trans (ro_val hg1b hcur1 (2 * j + 1) (.int .i64 x)))
        rw [Nat.mul_comm 2 j] at hres hro
        have hp3 : Hid (put1 s key = s) := Lib.hid (by rw [hp2.out, if_pos hj4])
        have hixc := run_ixc g1 j cn.length cpun hjl
        clear hp2 hcur1 hrj hj1 hj2 c0 c1 c3 cf hcurn hjl
        go_wp2_with fail
        go_ret
        first
          | exact ⟨false, rfl, _, _, by rw [hp3.out]; exact hres.out, hro.out⟩
          | (rw [hp3.out]; exact ⟨⟨_, _, hres.out⟩, hro.out⟩)
          | (rw [hp3.out]; exact ⟨Or.inl rfl, ⟨_, _, hres.out⟩, hro.out⟩)
      · have hp3 : Hid (put1 s key = { s with new := withK s.seed s.new key }) := Lib.hid (by rw [hp2.out, if_neg (by rw [hj4]; decide)])
        clear hp2 hrj hcurn
        go_wp2_with (go_at_call 52; ((with_reducible refine (hwn.out).mono ?_); rintro r w2 ⟨rfl, hR2, hO2, _⟩; obtain ⟨e0, e1, e2, e3, ef⟩ := hR2.cells; have ef2 := ef 2; have hR2H := Lib.hid hR2; have hO2H := Lib.hid hO2; clear hR2 hO2 ef))
        have hR3 := Lib.hid (hR2H.out.head2 hR2H.out.new hR2H.out.sep)
        have hO3 := Lib.hid ((hOH.out.trans hO2H.out).trans (ro_head hR2H.out 2 (.slice (some ⟨gn, 0, none⟩) s.new.length cpn)))
        go_ret
        first
          | exact ⟨true, rfl, _, _, by rw [hp3.out]; exact hR3.out, hO3.out⟩
          | (rw [hp3.out]; exact ⟨⟨_, _, hR3.out⟩, hO3.out⟩)
          | (rw [hp3.out]; exact ⟨Or.inr rfl, ⟨_, _, hR3.out⟩, hO3.out⟩)

end Go.Proofs.YtdldgiicblmknaaDoor

/-
  The walk of the document's without. A chain's shape.
-/
namespace Go.Proofs.YtdldgiicblmknaaDoor
open Go.RowKit

/-- Some cells that are appended to a chain of one's own. -/
theorem run_append_part {w : World} {ty : TypeId} (B : Nat) {v : Value} {c d : List ByteArray} (hv : Ch B w v c) (ad : Addr) (cc : Nat) (ys : List Value) (hyl : ys.length = d.length * 2) (hys : ∀ j u, ys[j]? = some u → w.cell? (ad.add j) = some u) (hk : KX ys d) (hlen : c.length + d.length ≤ 2000000) (hB : B ≤ w.heap.size) :
    ∃ v' w', (Builtin.append_ #[78, 78] ty #[v, .slice (some ad) d.length cc]).run Tryd.prog w = .ok v' w' ∧ Ch B w' v' (c ++ d) ∧ Only v.ownBlock.toList w w' ∧ (v'.ownBlock = v.ownBlock ∨ v'.ownBlock = some w.heap.size) := by
  obtain ⟨i0, hi, hz0, hz1, hz2⟩ := info_parts info_one
  obtain ⟨xs, h1, h2⟩ := hv
  obtain ⟨v', w', hr, e2, e3, _, e5⟩ := run_append_own_at (P := Tryd.prog) w B 78 ty 80 i0 (.agg #[.string ⟨#[]⟩, .int .i64 0]) 2 24 Tryd.underlying78 hi hz0 hz1 hz2 rfl (by omega) v c.length xs h1 ad d.length cc ys hyl hys (by
    intro u hu
    obtain ⟨j, hj⟩ := List.getElem?_of_mem hu
    have hjl : j < ys.length := (List.getElem?_eq_some_iff.1 hj).1
    obtain ⟨k, hkk⟩ : ∃ k, d[j / 2]? = some k := ⟨_, List.getElem?_eq_getElem (by omega)⟩
    obtain ⟨q1, q, q2⟩ := hk (j / 2) k hkk
    rcases Nat.mod_two_eq_zero_or_one j with hm | hm
    · rw [show 2 * (j / 2) = j by omega, hj] at q1
      cases q1; rfl
    · rw [show 2 * (j / 2) + 1 = j by omega, hj] at q2
      cases q2; rfl) (by unfold maxLen; omega) (by omega) hB
  exact ⟨v', w', hr, ⟨xs ++ ys, by rw [List.length_append]; exact e2, h2.append (by have := h1.1; omega) hk⟩, grown_only e3, e5⟩
theorem step_append_part {w : World} {ops : Array Oper} {o : Oper} {a : Act} {K : Act → World → Prop} {Q : Exit → Act → World → Prop} {E : Prop} (hgd : o.guard = none) (s x : Operand)
    (ho : o.op = .call { callee := .builtin .append, args := #[s, x], argTypes := #[78, 78] })
    (B : Nat) (v : Value) (c d : List ByteArray) (ad : Addr) (m cc : Nat) (ys : List Value) (hs : a.eval s = v) (hx : a.eval x = .slice (some ad) m cc) (hm : m = d.length) (hv : Ch B w v c) (hyl : ys.length = d.length * 2) (hys : ∀ j u, ys[j]? = some u → w.cell? (ad.add j) = some u) (hk : KX ys d) (hlen : c.length + d.length ≤ 2000000) (hB : B ≤ w.heap.size)
    (h : ∀ v' w', Ch B w' v' (c ++ d) → Only v.ownBlock.toList w w' → (v'.ownBlock = v.ownBlock ∨ v'.ownBlock = some w.heap.size) → K (a.put o.dst v') w') :
    if Region.wanted o (yielded ops a.tmps) = true then Oper.wp Tryd.prog o a w K Q else E := by
  have hw : Region.wanted o (yielded ops a.tmps) = true := by simp [Region.wanted, hgd]
  rw [if_pos hw]
  subst hm
  obtain ⟨v', w', hr, h2, h3, h5⟩ := run_append_part (ty := o.type) B hv ad cc ys hyl hys hk hlen hB
  unfold Oper.wp execOp
  simp only [ho, resolve, invoke, builtin, Sem.run_bind, Sem.run_pure, Result.andThen_ok, List.map_toArray, List.map_cons, List.map_nil, hs, hx, hr]
  exact h v' w' h2 h3 h5
theorem KX.take {xs : List Value} {c : List ByteArray} (h : KX xs c) (j : Nat) : KX (xs.take (2 * j)) (c.take j) := by
  intro i k hk
  have hi : i < j := by have := (List.getElem?_eq_some_iff.1 hk).1; rw [List.length_take] at this; omega
  rw [List.getElem?_take_of_lt hi] at hk
  obtain ⟨h1, v, h2⟩ := h i k hk
  exact ⟨by rw [List.getElem?_take_of_lt (by omega)]; exact h1, v, by rw [List.getElem?_take_of_lt (by omega)]; exact h2⟩
theorem KX.drop {xs : List Value} {c : List ByteArray} (h : KX xs c) (j : Nat) : KX (xs.drop (2 * j)) (c.drop j) := by
  intro i k hk
  rw [List.getElem?_drop] at hk
  obtain ⟨h1, v, h2⟩ := h (j + i) k hk
  refine ⟨?_, v, ?_⟩
  · rw [List.getElem?_drop, ← h1]; congr 1; omega
  · rw [List.getElem?_drop, ← h2]; congr 1; omega

set_option maxHeartbeats 2000000 in
theorem without_ref {B : Nat} {w : World} {u : Value} {c : List ByteArray} (h : Ch B w u c) (j : Nat) (hj : j < c.length) (hl : c.length ≤ 1000000) :
    Calls Tryd.prog 54 #[u, .int .i64 j] w fun e w' => ∃ u', e = .returned u' ∧ Ch w.heap.size w' u' (c.take j ++ c.drop (j + 1)) ∧ Below w.heap.size w w' := by
  obtain ⟨xs, h1, h2⟩ := h
  have h1' := h1
  obtain ⟨k1, ⟨rfl, k2⟩ | ⟨g, cap, cur, rfl, k3, k4, k5, k6, k7, k8⟩⟩ := h1'
  · omega
  · have hat : ∀ i, i < c.length * 2 → w.cell? ⟨g, i, none⟩ = xs[i]? := fun i hi => World.ownsRow.cellAt h1 i hi
    have hys1 : ∀ i v, (xs.take (2 * j))[i]? = some v → w.cell? ((⟨g, 0, none⟩ : Addr).add i) = some v := fun i v hv => by
      have hi : i < 2 * j := by have := (List.getElem?_eq_some_iff.1 hv).1; rw [List.length_take] at this; omega
      rw [List.getElem?_take_of_lt hi] at hv
      have := hat i (by omega)
      rw [hv] at this
      rcases i with _ | i <;> simpa [Addr.add] using this
    obtain ⟨A2, hA2, hys2⟩ : ∃ A2 : Addr, (if cap = j + 1 then (some ⟨g, 0, none⟩ : Option Addr) else some ⟨g, (j + 1) * 2, none⟩) = some A2 ∧ ∀ i v, (xs.drop (2 * (j + 1)))[i]? = some v → A2.block = g ∧ w.cell? (A2.add i) = some v := by
      by_cases hcj : cap = j + 1
      · refine ⟨⟨g, 0, none⟩, by rw [if_pos hcj], fun i v hv => ?_⟩
        have := (List.getElem?_eq_some_iff.1 hv).1
        rw [List.length_drop] at this
        omega
      · refine ⟨⟨g, (j + 1) * 2, none⟩, by rw [if_neg hcj], fun i v hv => ⟨rfl, ?_⟩⟩
        rw [List.getElem?_drop] at hv
        have hlt := (List.getElem?_eq_some_iff.1 hv).1
        have := hat (2 * (j + 1) + i) (by omega)
        rw [hv] at this
        have he : ((⟨g, (j + 1) * 2, none⟩ : Addr).add i) = ⟨g, 2 * (j + 1) + i, none⟩ := by
          unfold Addr.add
          split
          · next h0 => subst h0; simp
          · simp; omega
        rw [he]; exact this
    have hq1 : j ≤ cap := by omega
    have hq2 : j + 1 ≤ c.length := hj
    have hq4 : j + 1 ≤ cap := by omega
    have hwj : IntKind.i64.wrap ((j : Int) + 1) = (j : Int) + 1 := IntWalk.i64_in _ (by omega)
    have hq5 : (0 : Int) ≤ (j : Int) + 1 := by omega
    have hq6 : (j : Int) + 1 ≤ (c.length : Int) := by omega
    have hKt := Lib.hid (h2.take j)
    have hKd := Lib.hid (h2.drop (j + 1))
    have hys1H := Lib.hid hys1
    have hys2H := Lib.hid hys2
    have hgl := some_lt k4
    have hxl : xs.length = c.length * 2 := h1.1
    have hxlH := Lib.hid hxl
    have hjH := Lib.hid (And.intro hj (And.intro hl hgl))
    clear h1 h2 hat k4 k7 k8 hys1 hys2 hxl k1
    go_enter Tryd.func54, Tryd.ntmps54
    go_upto_region 1 with fail
    go_region_law (first
      | (refine step_append_part rfl (.const (Value.slice none 0 0)) (.tmp 7) rfl w.heap.size (.slice none 0 0) [] (c.take j) ⟨g, 0, none⟩ j cap (xs.take (2 * j)) (by simp [Act.eval]) (by simp [Act.eval, Act.put]) (by rw [List.length_take]; have := hjH.out.1; omega) (Ch.nil _ _) (by rw [List.length_take, List.length_take, hxlH.out]; have := hjH.out.1; omega) (hys1H.out) hKt.out (by rw [List.length_take]; have := hjH.out.2.1; simp; omega) (Nat.le_refl _) ?_; intro v2 w2 hc2 ho2 hv2; have hb2 : Below w.heap.size w w2 := ((Below.refl w.heap.size w).drew).trans (ho2.below (B := w.heap.size) (Nat.le_refl _) (by simp [Value.ownBlock])))
      | (refine step_append_part rfl (.tmp 8) (.tmp 12) rfl w.heap.size v2 _ (c.drop (j + 1)) A2 (c.length - (j + 1)) (cap - (j + 1)) (xs.drop (2 * (j + 1))) (by simp [Act.eval]) (by simp [Act.eval]) (by rw [List.length_drop]) hc2 (by rw [List.length_drop, List.length_drop, hxlH.out]; omega) (fun i v hv => by obtain ⟨q1, q2⟩ := hys2H.out i v hv; exact (World.cell?_of_block (w := w) (by rw [add_block, q1]; exact ho2.2 g hjH.out.2.2 (by simp [Value.ownBlock]))).trans q2) hKd.out (by rw [List.nil_append, List.length_take, List.length_drop]; have := hjH.out.2.1; omega) (by have := ho2.1.size; exact this) ?_; intro v3 w3 hc3 ho3 hv3; have hb3 := Lib.hid (hb2.trans (ho3.below hb2.size (fun k hk => by obtain ⟨ys, y1, _⟩ := hc2; exact (own_type y1 (by simpa using hk)).1))); have hc3H := Lib.hid hc3; clear hc3 ho3 hv3))
    all_goals
      go_wp2_with fail
      go_ret
      exact ⟨_, rfl, by have := hc3H.out; rw [List.nil_append] at this; exact this, hb3.out⟩

end Go.Proofs.YtdldgiicblmknaaDoor
