/-
  The walk of the reader of an argument. Premises: the text is no longer than 65536 bytes; the library's variable ErrSyntax holds an error, or none.
-/
import Derived.Test.YtjidopgohdlfdaaGreatDoorLF
import Derived.Deep.CutRange
import Derived.Deep.CutBlock
namespace Go.Proofs.YtjidopgohdlfdaaGreatDoor.S4
open Go.RowKit Ln

/-- How the reader of an argument ends. -/
def ArgEnd (R : Option (List UInt8 × Nat)) (w : World) (e : Ending) (w' : World) : Prop := Below w.heap.size w w' ∧ match R with
  | none => e = .returned (.tuple #[.string ⟨#[]⟩, .int .i64 0, .bool false])
  | some r => e = .returned (.tuple #[.string ⟨r.1.toArray⟩, .int .i64 (r.2 : Nat), .bool true])
/-- So many bytes are neither blanks nor quotes. -/
def BareTo (s : ByteArray) (k : Nat) : Prop := ∀ c ∈ s.data.toList.take k, bareC c = true
theorem bare_more {s : ByteArray} {k : Nat} (h : BareTo s k) (hk : k < s.size) (hc : bareC s[k] = true) : BareTo s (k + 1) := by
  intro c hcm
  have e : s.data.toList.take (k + 1) = s.data.toList.take k ++ [s[k]] := by
    rw [List.take_succ_eq_append_getElem (by simpa using hk)]; rfl
  rw [e] at hcm
  rcases List.mem_append.1 hcm with h1 | h1
  · exact h c h1
  · simp at h1; subst h1; exact hc
theorem fresh_builder (w : World) (o : Obj) : Lib.IsBuilderF 74 5 (w.heap.size + 1) (w.heap.size + 1) (Lib.byteCells []) ((w.alloc o).alloc (.cells #[.pointer none, .slice none 0 0] 74)) := by
  have h := Lib.fresh_isBuilder 74 5 (w.alloc o)
  have e : (w.alloc o).heap.size = w.heap.size + 1 := by simp
  rw [e] at h
  exact Lib.IsBuilderF.of h

theorem head_data (s : ByteArray) (k : Nat) : (s.extract 0 k).data.toList = s.data.toList.take k := by simp
/-- What is written first, at any world where the builder is fresh. -/
theorem write_head (s : ByteArray) (k g : Nat) (hs : s.size ≤ 65536) (W : World) (hB0 : Lib.IsBuilderF 74 5 g g (Lib.byteCells []) W) (hz0 : g ≤ W.heap.size) :
    Calls Tryz.prog 37 #[.pointer (some ⟨g, 0, none⟩), .string (s.extract 0 k)] W fun e w' => (∃ n : Int, e = .returned (.tuple #[.int .i64 n, .nilIface])) ∧ Lib.IsBuilderF 74 5 g g (Lib.byteCells (s.data.toList.take k)) w' ∧ Kp g g W w' := by
  have hsz : (s.extract 0 k).size ≤ 65536 := by simp; omega
  have hS := wstring_any _ _ _ (s.extract 0 k) _ hB0 (by simp only [Lib.byteCells_length, List.length_nil]; omega) hz0
  have hcells : Lib.byteCells [] ++ Lib.strCells (s.extract 0 k) = Lib.byteCells (s.data.toList.take k) := by
    rw [strCells_bytes, ← byteCells_append, List.nil_append, head_data]
  rw [hcells] at hS
  exact hS.mono fun e w' ⟨h1, h2, h3⟩ => ⟨⟨_, h1⟩, h2, h3⟩
theorem cell_on {B : Nat} {w w' : World} {g : Nat} {v : Value} (h : w.cell? ⟨g, 0, none⟩ = some v) (hg : g < B) (hb : Below B w w') : w'.cell? ⟨g, 0, none⟩ = some v := (hb.cell (p := ⟨g, 0, none⟩) hg).trans h

theorem ret_snb {l m : List UInt8} {a b : Int} {p q : Bool} (h1 : l = m) (h2 : a = b) (h3 : p = q) : Ending.returned (.tuple #[.string ⟨l.toArray⟩, .int .i64 a, .bool p]) = .returned (.tuple #[.string ⟨m.toArray⟩, .int .i64 b, .bool q]) := by rw [h1, h2, h3]
theorem argR_ends {p r : List UInt8} (h : ends r = true) : argR p r = some (p, p.length) := by
  unfold argR
  cases r with
  | nil => rfl
  | cons c t => simp only []; rw [if_pos (show gapC c = true from h)]
/-- The argument where quotes are its last part. -/
def argQ (p : List UInt8) (R : Option (List UInt8 × Nat)) (E : Nat → Bool) : Option (List UInt8 × Nat) := match R with
  | none => none
  | some x => if E x.2 then some (p ++ x.1, p.length + (x.2 + 1)) else none
theorem argR_quote {s : ByteArray} {k : Nat} {c : UInt8} {t : List UInt8} (h : s.data.toList.drop k = c :: t) (hc : gapC c = false) : argR (s.data.toList.take k) (s.data.toList.drop k) = argQ (s.data.toList.take k) (uq c 0 t) (fun n => ends (s.data.toList.drop (k + (n + 1)))) := by
  have e : ∀ n, s.data.toList.drop (k + (n + 1)) = t.drop n := fun n => by
    rw [← List.drop_drop, h, List.drop_succ_cons]
  unfold argR argQ
  rw [h]
  simp only [hc, e]
  rfl

set_option maxRecDepth 100000 in
set_option maxHeartbeats 4000000 in
theorem argument_any (s : ByteArray) (w : World) (hs : s.size ≤ 65536) (hE : ErrAt w) :
    Calls Tryz.prog 106 #[.string s] w fun e w' => ∃ k, k ≤ s.size ∧ BareTo s k ∧ (∀ c t, s.data.toList.drop k = c :: t → bareC c = false) ∧ ArgEnd (argR (s.data.toList.take k) (s.data.toList.drop k)) w e w' := by
  have hmf : ∀ (fn : Fn) (first cap : Array Value) (w : World), (Instr.makeFunc fn first cap).run Tryz.prog w = .ok (.func fn first cap) w := fun _ _ _ _ => rfl
  have hEH := Lib.hid hE
  clear hE
  go_enter Tryz.func106, Tryz.ntmps106
  go_wp2_with fail
  have hcell : (w.alloc (.cells #[.string s] 9)).cell? ⟨w.heap.size, 0, none⟩ = some (.string s) := by
    rw [World.cell?_alloc_at _ _ _ _ rfl]; rfl
  have hend := Lib.hid (fun (n : Nat) (hn : n ≤ s.size) (b : Bool) (h : Hid (ends (s.data.toList.drop n) = b)) => ends_any s n w.heap.size (w.alloc (.cells #[.string s] 9)) hn hcell b h)
  go_loop [6] (fun i => ∃ k : Nat, i = .int .i64 k ∧ k ≤ s.size ∧ Hid (BareTo s k)) (fun i => s.size - (intOf i).toNat)
  case atStart => exact ⟨0, rfl, by omega, Lib.hid (fun c hc => by simp at hc)⟩
  case round =>
    obtain ⟨k, rfl, hk, hB⟩ := hrel
    cases he : ends (s.data.toList.drop k) with
    | true =>
      have heH := Lib.hid he
      clear he
      go_wp2_with (go_at_call 120; ((with_reducible refine (hend.out k hk true heH).mono ?_); rintro e w' ⟨rfl, rfl⟩))
      have hB0 := fresh_builder w (.cells #[.string s] 9)
      have hL0 : Below w.heap.size w ((w.alloc (.cells #[.string s] 9)).alloc (.cells #[.pointer none, .slice none 0 0] 74)) := ((Below.refl _ _).alloc (Nat.le_refl _) _).alloc (by simp) _
      have hz0 : w.heap.size + 1 ≤ ((w.alloc (.cells #[.string s] 9)).alloc (.cells #[.pointer none, .slice none 0 0] 74)).heap.size := by simp
      have hc0 : ((w.alloc (.cells #[.string s] 9)).alloc (.cells #[.pointer none, .slice none 0 0] 74)).cell? ⟨w.heap.size, 0, none⟩ = some (.string s) := by
        rw [World.cell?_alloc_past _ _ _ (by simp)]; exact hcell
      clear hend hcell
      generalize (w.alloc (.cells #[.string s] 9)).alloc (.cells #[.pointer none, .slice none 0 0] 74) = W0 at hB0 hL0 hz0 hc0 ⊢
      have hS := Lib.hid (write_head s k (w.heap.size + 1) hs W0 hB0 hz0)
      go_wp2_with (first
        | (go_at_call 37; ((with_reducible refine hS.out.mono ?_); rintro e w1 ⟨⟨n, rfl⟩, hB1, hK1⟩; have hc1 := cell_on hc0 (Nat.lt_succ_self _) hK1.1))
        | (go_at_call 120; ((with_reducible refine (ends_any s k w.heap.size w1 hk hc1 true heH).mono ?_); rintro e w' ⟨rfl, rfl⟩))
        | (go_at_call 39; ((with_reducible refine (Tryz.Builder_String_any_f (w.heap.size + 1) (w.heap.size + 1) _ w1 hB1 (Nat.le_trans hz0 hK1.size)).mono ?_); rintro e w2 ⟨rfl, _, hb2⟩)))
      go_ret3
      refine ⟨k, hk, hB.out, ?_, (hL0.trans (hK1.1.mono (Nat.le_succ _))).trans (hb2.mono (Nat.le_succ _)), ?_⟩
      · intro c t h
        have := heH.out
        rw [h] at this
        unfold bareC
        rw [show gapC c = true from this]
        rfl
      · rw [argR_ends heH.out]
        exact ret_snb rfl (by simp; omega) rfl
    | false =>
      have hlt : k < s.size := by
        by_cases h : k < s.size
        · exact h
        · rw [List.drop_eq_nil_of_le (by simp; omega)] at he; cases he
      have hdr := str_cons s k hlt
      have hgap : gapC s[k] = false := by rw [hdr] at he; exact he
      have heH := Lib.hid he
      clear he
      cases hq : quoteC s[k] with
      | false =>
        have hbare : bareC s[k] = true := by unfold bareC; rw [hgap, hq]; rfl
        have hB2 := Lib.hid (bare_more hB.out hlt hbare)
        have h34 : ((s[k].toNat : Int) != 34) = true := bne_iff_ne.2 (fun e => by rw [byte_of (n := 34) (by decide) e] at hq; cases hq)
        have h39 : ((s[k].toNat : Int) != 39) = true := bne_iff_ne.2 (fun e => by rw [byte_of (n := 39) (by decide) e] at hq; cases hq)
        clear hdr hgap hq hbare
        go_wp2_with (go_at_call 120; ((with_reducible refine (hend.out k hk false heH).mono ?_); rintro e w' ⟨rfl, rfl⟩))
        go_round
        case rel => exact ⟨k + 1, by go_num, by omega, hB2⟩
        case measure => simp [intOf]; omega
      | true =>
        have hB0 := fresh_builder w (.cells #[.string s] 9)
        have hL0 : Below w.heap.size w ((w.alloc (.cells #[.string s] 9)).alloc (.cells #[.pointer none, .slice none 0 0] 74)) := ((Below.refl _ _).alloc (Nat.le_refl _) _).alloc (by simp) _
        have hz0 : w.heap.size + 1 ≤ ((w.alloc (.cells #[.string s] 9)).alloc (.cells #[.pointer none, .slice none 0 0] 74)).heap.size := by simp
        have hc0 : ((w.alloc (.cells #[.string s] 9)).alloc (.cells #[.pointer none, .slice none 0 0] 74)).cell? ⟨w.heap.size, 0, none⟩ = some (.string s) := by
          rw [World.cell?_alloc_past _ _ _ (by simp)]; exact hcell
        have hE0 : Hid (ErrAt ((w.alloc (.cells #[.string s] 9)).alloc (.cells #[.pointer none, .slice none 0 0] 74))) := Lib.hid (hEH.out.on hL0)
        have hB3 : 7 < w.heap.size + 1 := by
          obtain ⟨ev, h1, _⟩ := hEH.out
          have : 7 < w.heap.size := Lib.lt_of_cell h1
          omega
        have hh : ((s[k].toNat : Int) != 34) = false ∨ (((s[k].toNat : Int) != 34) = true ∧ ((s[k].toNat : Int) != 39) = false) := by
          have h := hq
          unfold quoteC at h
          simp only [Bool.or_eq_true, beq_iff_eq] at h
          rcases h with h | h
          · exact Or.inl (by rw [h]; rfl)
          · exact Or.inr ⟨by rw [h]; rfl, by rw [h]; rfl⟩
        have hR : Hid (argR (s.data.toList.take k) (s.data.toList.drop k) = argQ (s.data.toList.take k) (uq s[k] 0 (s.data.toList.drop (k + 1))) (fun n => ends (s.data.toList.drop (k + (n + 1))))) := Lib.hid (argR_quote hdr hgap)
        have hU := Lib.hid (fun (W : World) h1 h2 h3 => unquote_any (w.heap.size + 1) (w.heap.size + 1) (s.data.toList.take k) s[k] (s.data.toList.drop (k + 1)) (s.extract k s.size) W (by simp; omega) (by rw [ext_data, hdr]) hq (by simp; omega) h1 h2 h3 hB3)
        have hnb := Lib.hid (fun (c : UInt8) (t : List UInt8) (h : s.data.toList.drop k = c :: t) => (show bareC c = false by
          rw [hdr] at h
          injection h with h1 _
          rw [← h1]
          unfold bareC
          rw [hq]
          simp))
        have hdl : (s.data.toList.drop (k + 1)).length = s.size - (k + 1) := by simp
        obtain ⟨c, hcd⟩ : ∃ c, c = s[k] := ⟨_, rfl⟩
        rw [← hcd] at hR hU
        obtain ⟨U, hUU⟩ : ∃ U, U = uq c 0 (s.data.toList.drop (k + 1)) := ⟨_, rfl⟩
        rw [← hUU] at hR hU
        have hle : ∀ x, U = some x → 1 ≤ x.2 ∧ x.2 ≤ s.size - (k + 1) := fun x hx => by
          have := uq_le c (s.data.toList.drop (k + 1)) 0 x (hUU.symm.trans hx)
          rw [hdl] at this
          exact this
        clear hcell hdr hgap hq hdl hcd hUU
        have hleH := Lib.hid hle
        clear hle
        rcases hh with h34 | ⟨h34, h39⟩
        all_goals
          go_wp2_with (go_at_call 120; ((with_reducible refine (hend.out k hk false heH).mono ?_); rintro e w' ⟨rfl, rfl⟩))
          clear hend
          generalize (w.alloc (.cells #[.string s] 9)).alloc (.cells #[.pointer none, .slice none 0 0] 74) = W0 at hB0 hL0 hz0 hc0 hE0 ⊢
          have hS := Lib.hid (write_head s k (w.heap.size + 1) hs W0 hB0 hz0)
          cases U with
          | none =>
            go_wp2_with (first
              | (go_at_call 37; ((with_reducible refine hS.out.mono ?_); rintro e w1 ⟨⟨n, rfl⟩, hB1, hK1⟩; have hc1 := cell_on hc0 (Nat.lt_succ_self _) hK1.1; have hz1 := Nat.le_trans hz0 hK1.size; have hE1 := Lib.hid (hE0.out.kept hB3 hK1.1)))
              | (go_at_call 120; ((with_reducible refine (ends_any s k w.heap.size _ hk hc1 false heH).mono ?_); rintro e w' ⟨rfl, rfl⟩))
              | (go_at_call 121; ((with_reducible refine (hU.out w1 hB1 hz1 hE1.out).mono ?_); rintro e w2 ⟨rfl, hK2⟩)))
            go_ret3
            refine ⟨k, hk, hB.out, hnb.out, (hL0.trans (hK1.1.mono (Nat.le_succ _))).trans (hK2.1.mono (Nat.le_succ _)), ?_⟩
            rw [hR.out]
            rfl
          | some x =>
            obtain ⟨m, n⟩ := x
            obtain ⟨hn1, hn2⟩ := hleH.out _ rfl
            simp only [] at hn1 hn2
            obtain ⟨E, hEE⟩ : ∃ E, Hid (ends (s.data.toList.drop (k + (n + 1))) = E) := ⟨_, Lib.hid rfl⟩
            have hkn : k + (n + 1) ≤ s.size := by omega
            have hU2 : Hid (∀ W, Lib.IsBuilderF 74 5 (w.heap.size + 1) (w.heap.size + 1) (Lib.byteCells (s.data.toList.take k)) W → w.heap.size + 1 ≤ W.heap.size → ErrAt W → Calls Tryz.prog 121 #[.pointer (some ⟨w.heap.size + 1, 0, none⟩), .string (s.extract k s.size)] W fun e w' =>
                e = .returned (.tuple #[.int .i64 ((n : Int) + 1), .bool true]) ∧ Lib.IsBuilderF 74 5 (w.heap.size + 1) (w.heap.size + 1) (Lib.byteCells (s.data.toList.take k ++ m)) w' ∧ Kp (w.heap.size + 1) (w.heap.size + 1) W w') :=
              Lib.hid fun W h1 h2 h3 => (hU.out W h1 h2 h3).mono fun e w' h => h
            clear hU hleH
            have hends : Hid (∀ W, W.cell? ⟨w.heap.size, 0, none⟩ = some (.string s) → Calls Tryz.prog 120 #[.int .i64 ((k : Int) + ((n : Int) + 1)), .pointer (some ⟨w.heap.size, 0, none⟩)] W fun e w' => e = .returned (.bool E) ∧ W = w') := Lib.hid (fun W h => by
              have := ends_any s (k + (n + 1)) w.heap.size W hkn h E hEE
              have e : (((k + (n + 1) : Nat)) : Int) = (k : Int) + ((n : Int) + 1) := by omega
              rwa [e] at this)
            have z1 : 0 ≤ (n : Int) := by omega
            cases E with
            | true =>
              go_wp2_with (first
                | (go_at_call 37; ((with_reducible refine hS.out.mono ?_); rintro e w1 ⟨⟨n, rfl⟩, hB1, hK1⟩; have hc1 := cell_on hc0 (Nat.lt_succ_self _) hK1.1; have hz1 := Nat.le_trans hz0 hK1.size; have hE1 := Lib.hid (hE0.out.kept hB3 hK1.1)))
                | (go_at_call 120; ((with_reducible refine (ends_any s k w.heap.size _ hk hc1 false heH).mono ?_); rintro e w' ⟨rfl, rfl⟩))
                | (go_at_call 121; ((with_reducible refine (hU2.out w1 hB1 hz1 hE1.out).mono ?_); rintro e w2 ⟨rfl, hB2, hK2⟩; have hc2 := cell_on hc1 (Nat.lt_succ_self _) hK2.1))
                | (go_at_call 120; ((with_reducible refine (hends.out _ hc2).mono ?_); rintro e w' ⟨rfl, rfl⟩))
                | (go_at_call 39; ((with_reducible refine (Tryz.Builder_String_any_f (w.heap.size + 1) (w.heap.size + 1) _ w2 hB2 (Nat.le_trans hz1 hK2.size)).mono ?_); rintro e w3 ⟨rfl, _, hb3⟩)))
              go_ret3
              refine ⟨k, hk, hB.out, hnb.out, ((hL0.trans (hK1.1.mono (Nat.le_succ _))).trans (hK2.1.mono (Nat.le_succ _))).trans (hb3.mono (Nat.le_succ _)), ?_⟩
              rw [hR.out]
              simp only [argQ, hEE.out]
              exact ret_snb rfl (by simp; omega) rfl
            | false =>
              go_wp2_with (first
                | (go_at_call 37; ((with_reducible refine hS.out.mono ?_); rintro e w1 ⟨⟨n, rfl⟩, hB1, hK1⟩; have hc1 := cell_on hc0 (Nat.lt_succ_self _) hK1.1; have hz1 := Nat.le_trans hz0 hK1.size; have hE1 := Lib.hid (hE0.out.kept hB3 hK1.1)))
                | (go_at_call 120; ((with_reducible refine (ends_any s k w.heap.size _ hk hc1 false heH).mono ?_); rintro e w' ⟨rfl, rfl⟩))
                | (go_at_call 121; ((with_reducible refine (hU2.out w1 hB1 hz1 hE1.out).mono ?_); rintro e w2 ⟨rfl, hB2, hK2⟩; have hc2 := cell_on hc1 (Nat.lt_succ_self _) hK2.1))
                | (go_at_call 120; ((with_reducible refine (hends.out _ hc2).mono ?_); rintro e w' ⟨rfl, rfl⟩)))
              go_ret3
              refine ⟨k, hk, hB.out, hnb.out, (hL0.trans (hK1.1.mono (Nat.le_succ _))).trans (hK2.1.mono (Nat.le_succ _)), ?_⟩
              rw [hR.out]
              simp only [argQ, hEE.out]
              rfl
end Go.Proofs.YtjidopgohdlfdaaGreatDoor.S4
