/-
  The walks of Chain and Toward, of a parted table too. A table's shape.
-/
import Derived.Test.YtdldgiicblmknaaDoorIA
namespace Go.Proofs.YtdldgiicblmknaaDoor
open Go.RowKit

/-- A row of texts of one's own. -/
def RowT (w : World) (base : Nat) (v : Value) (L : List ByteArray) : Prop := w.ownsRow base 9 1 v L.length (L.map Value.string)
/-- The keys alone. -/
def kys (L : List En) : List ByteArray := L.map fun e => e.2.1
theorem rowT_nil (w : World) (base : Nat) : RowT w base (.slice none 0 0) [] := World.ownsRow_nil w base 9 1
theorem rowT_keys {w : World} {base : Nat} {v : Value} {L : List En} (h : w.ownsRow base 9 1 v L.length (keyV L)) : RowT w base v (kys L) := by
  unfold RowT kys
  rw [List.length_map, List.map_map]
  exact h
/-- The keys of one of so many places. -/
def chAt (l : List (List En)) (n : Int) : List En := if 0 ≤ n ∧ n < l.length then l.getD n.toNat [] else []

set_option maxHeartbeats 2000000 in
theorem chain_old {B : Nat} {X : Tb} {w : World} (h : Ok B X w) (n : Int) :
    Calls Tryd.prog 33 #[.pointer (some ⟨X.T, 0, none⟩), .bool true, .int .i64 n] w fun r w' => ∃ v', r = .returned v' ∧ RowT w' w.heap.size v' (kys (chAt X.old n)) ∧ Below w.heap.size w w' := by
  have htab := h.live.here.tab
  have hH := Lib.hid h
  cases hp0 : X.p0 with
  | none =>
    have hnil := h.live.here.p0.1 hp0
    have hch : chAt X.old n = [] := by unfold chAt; rw [hnil]; simp
    rw [hch]
    rw [hp0, hnil] at htab
    obtain ⟨c0, c1, c2, c3, c4, _⟩ := tab_facts htab
    simp only [adr, Option.map_none, List.length_nil] at c1
    clear h htab
    by_cases hn0 : n < 0
    · have hd1 : decide (n < 0) = true := by simpa using hn0
      go_enter Tryd.func33, Tryd.ntmps33
      go_wp2_with fail
      go_ret
      first
        | exact ⟨_, rfl, rowT_nil _ _, Below.refl _ _⟩
        | exact ⟨rowT_nil _ _, Below.refl _ _⟩
    · have hd1 : decide (n < 0) = false := by simpa using hn0
      have hd2 : decide ((0 : Int) ≤ n) = true := by simp; omega
      go_enter Tryd.func33, Tryd.ntmps33
      go_wp2_with fail
      go_ret
      first
        | exact ⟨_, rfl, rowT_nil _ _, Below.refl _ _⟩
        | exact ⟨rowT_nil _ _, Below.refl _ _⟩
  | some b0 =>
    rw [hp0] at htab
    obtain ⟨c0, c1, c2, c3, c4, _⟩ := tab_facts htab
    simp only [adr, Option.map_some] at c1
    have hle : X.old.length ≤ 65536 := by obtain ⟨k, hk⟩ := h.inv.good.s0; exact hk.le
    have hpl := h.live.here.at_ _ (mem_p0 hp0)
    by_cases hin : 0 ≤ n ∧ n < X.old.length
    · obtain ⟨i, rfl⟩ := Int.eq_ofNat_of_zero_le hin.1
      have hil : i < X.old.length := by omega
      obtain ⟨c, hc⟩ : ∃ c, X.old[i]? = some c := ⟨_, List.getElem?_eq_getElem hil⟩
      have hch : chAt X.old (i : Int) = c := by unfold chAt; rw [if_pos hin]; simp [hc]
      rw [hch]
      have hcell := (pl_cell hpl hc).1
      have hlen : c.length ≤ 1000000 := by
        have h1 := h.inv.cnt
        have h2 := h.inv.good.ct
        have h3 : c.length ≤ X.old.flatten.length := by
          obtain ⟨hi2, hc2⟩ := List.getElem?_eq_some_iff.1 hc
          have h4 : X.old.flatten = (X.old.take i).flatten ++ (X.old.drop i).flatten := by rw [← List.flatten_append, List.take_append_drop]
          rw [h4, List.drop_eq_getElem_cons hi2, hc2]; simp; omega
        have h5 : X.ents.length = X.old.flatten.length + (X.new.flatten.length + X.ext.length) := by unfold Tb.ents; simp
        omega
      have hwk := withKeys_any w.heap.size (.slice none 0 0) 0 [] c w (World.ownsRow_nil w w.heap.size 9 1) (Nat.le_refl _) (fun wr hb => by
        have h6 := hH.out.live.here.on (O := []) ⟨hb.mono (Nat.zero_le _), fun k hk _ => hb.block k hk⟩ (fun _ _ => by simp)
        exact fun q hq => h6.at_ q (mem_old (List.mem_of_getElem? hc) hq)) (by omega)
      have hwkH := Lib.hid hwk
      have hd1 : decide (i < X.old.length) = true := by simpa using hil
      have hd2 : decide (X.old.length ≤ i) = false := by simp; omega
      have hd3 : decide ((X.old.length : Int) ≤ (i : Int)) = false := by simp; omega
      clear hwk h hpl hc hin htab
      go_enter Tryd.func33, Tryd.ntmps33
      go_wp2_with (go_at_call 41; ((with_reducible refine (hwkH.out).mono ?_); rintro r w3 ⟨v3, rfl, how3, hb3, _⟩))
      go_ret
      rw [Nat.zero_add, List.nil_append] at how3
      exact ⟨v3, rfl, rowT_keys how3, hb3⟩
    · have hch : chAt X.old n = [] := by unfold chAt; rw [if_neg hin]
      rw [hch]
      clear h hpl htab
      by_cases hn0 : n < 0
      · have hd1 : decide (n < 0) = true := by simpa using hn0
        go_enter Tryd.func33, Tryd.ntmps33
        go_wp2_with fail
        go_ret
        first
          | exact ⟨_, rfl, rowT_nil _ _, Below.refl _ _⟩
          | exact ⟨rowT_nil _ _, Below.refl _ _⟩
      · have hd1 : decide (n < 0) = false := by simpa using hn0
        have hd2 : decide ((X.old.length : Int) ≤ n) = true := by simp; omega
        go_enter Tryd.func33, Tryd.ntmps33
        go_wp2_with fail
        go_ret
        first
          | exact ⟨_, rfl, rowT_nil _ _, Below.refl _ _⟩
          | exact ⟨rowT_nil _ _, Below.refl _ _⟩

set_option maxHeartbeats 2000000 in
theorem chain_new {B : Nat} {X : Tb} {w : World} (h : Ok B X w) (n : Int) :
    Calls Tryd.prog 33 #[.pointer (some ⟨X.T, 0, none⟩), .bool false, .int .i64 n] w fun r w' => ∃ v', r = .returned v' ∧ RowT w' w.heap.size v' (kys (chAt X.new n)) ∧ Below w.heap.size w w' := by
  have htab := h.live.here.tab
  have hH := Lib.hid h
  cases hp0 : X.p1 with
  | none =>
    have hnil := h.live.here.p1.1 hp0
    have hch : chAt X.new n = [] := by unfold chAt; rw [hnil]; simp
    rw [hch]
    rw [hp0, hnil] at htab
    obtain ⟨c0, c1, c2, c3, c4, _⟩ := tab_facts htab
    simp only [adr, Option.map_none, List.length_nil] at c2
    clear h htab
    by_cases hn0 : n < 0
    · have hd1 : decide (n < 0) = true := by simpa using hn0
      go_enter Tryd.func33, Tryd.ntmps33
      go_wp2_with fail
      go_ret
      first
        | exact ⟨_, rfl, rowT_nil _ _, Below.refl _ _⟩
        | exact ⟨rowT_nil _ _, Below.refl _ _⟩
    · have hd1 : decide (n < 0) = false := by simpa using hn0
      have hd2 : decide ((0 : Int) ≤ n) = true := by simp; omega
      go_enter Tryd.func33, Tryd.ntmps33
      go_wp2_with fail
      go_ret
      first
        | exact ⟨_, rfl, rowT_nil _ _, Below.refl _ _⟩
        | exact ⟨rowT_nil _ _, Below.refl _ _⟩
  | some b0 =>
    rw [hp0] at htab
    obtain ⟨c0, c1, c2, c3, c4, _⟩ := tab_facts htab
    simp only [adr, Option.map_some] at c2
    have hle : X.new.length ≤ 65536 := by obtain ⟨k, hk⟩ := h.inv.good.s1; exact hk.le
    have hpl := h.live.here.at_ _ (mem_p1 hp0)
    by_cases hin : 0 ≤ n ∧ n < X.new.length
    · obtain ⟨i, rfl⟩ := Int.eq_ofNat_of_zero_le hin.1
      have hil : i < X.new.length := by omega
      obtain ⟨c, hc⟩ : ∃ c, X.new[i]? = some c := ⟨_, List.getElem?_eq_getElem hil⟩
      have hch : chAt X.new (i : Int) = c := by unfold chAt; rw [if_pos hin]; simp [hc]
      rw [hch]
      have hcell := (pl_cell hpl hc).1
      have hlen : c.length ≤ 1000000 := by
        have h1 := h.inv.cnt
        have h2 := h.inv.good.ct
        have h3 : c.length ≤ X.new.flatten.length := by
          obtain ⟨hi2, hc2⟩ := List.getElem?_eq_some_iff.1 hc
          have h4 : X.new.flatten = (X.new.take i).flatten ++ (X.new.drop i).flatten := by rw [← List.flatten_append, List.take_append_drop]
          rw [h4, List.drop_eq_getElem_cons hi2, hc2]; simp; omega
        have h5 : X.ents.length = X.old.flatten.length + (X.new.flatten.length + X.ext.length) := by unfold Tb.ents; simp
        omega
      have hwk := withKeys_any w.heap.size (.slice none 0 0) 0 [] c w (World.ownsRow_nil w w.heap.size 9 1) (Nat.le_refl _) (fun wr hb => by
        have h6 := hH.out.live.here.on (O := []) ⟨hb.mono (Nat.zero_le _), fun k hk _ => hb.block k hk⟩ (fun _ _ => by simp)
        exact fun q hq => h6.at_ q (mem_new (List.mem_of_getElem? hc) hq)) (by omega)
      have hwkH := Lib.hid hwk
      have hd1 : decide (i < X.new.length) = true := by simpa using hil
      have hd2 : decide (X.new.length ≤ i) = false := by simp; omega
      have hd3 : decide ((X.new.length : Int) ≤ (i : Int)) = false := by simp; omega
      clear hwk h hpl hc hin htab
      go_enter Tryd.func33, Tryd.ntmps33
      go_wp2_with (go_at_call 41; ((with_reducible refine (hwkH.out).mono ?_); rintro r w3 ⟨v3, rfl, how3, hb3, _⟩))
      go_ret
      rw [Nat.zero_add, List.nil_append] at how3
      exact ⟨v3, rfl, rowT_keys how3, hb3⟩
    · have hch : chAt X.new n = [] := by unfold chAt; rw [if_neg hin]
      rw [hch]
      clear h hpl htab
      by_cases hn0 : n < 0
      · have hd1 : decide (n < 0) = true := by simpa using hn0
        go_enter Tryd.func33, Tryd.ntmps33
        go_wp2_with fail
        go_ret
        first
          | exact ⟨_, rfl, rowT_nil _ _, Below.refl _ _⟩
          | exact ⟨rowT_nil _ _, Below.refl _ _⟩
      · have hd1 : decide (n < 0) = false := by simpa using hn0
        have hd2 : decide ((X.new.length : Int) ≤ n) = true := by simp; omega
        go_enter Tryd.func33, Tryd.ntmps33
        go_wp2_with fail
        go_ret
        first
          | exact ⟨_, rfl, rowT_nil _ _, Below.refl _ _⟩
          | exact ⟨rowT_nil _ _, Below.refl _ _⟩


set_option maxHeartbeats 1000000 in
theorem toward_at {B : Nat} {X : Tb} {w : World} (h : Ok B X w) {k : Nat} (hk : SzOk X.new.length k) : Calls Tryd.prog 31 #[.pointer (some ⟨X.T, 0, none⟩)] w fun e w' => e = .returned (.int .i64 (if X.new = [] then -1 else (k : Int))) ∧ w = w' := by
  obtain ⟨c0, c1, c2, c3, c4, _⟩ := tab_facts h.live.here.tab
  have hp := parted_at h.live.here
  have hsz := fun w => hsize_any (adr X.p1) X.new.length k hk w
  by_cases hY : X.new = []
  · rw [hY] at hp
    simp only [List.length_nil, Nat.lt_irrefl, decide_false] at hp
    have hpH := Lib.hid hp
    rw [if_pos hY]
    clear hp hY h
    go_enter Tryd.func31, Tryd.ntmps31
    go_wp2_with (go_at_call 48; ((with_reducible refine (hpH.out).mono ?_); rintro e w' ⟨rfl, rfl⟩))
    go_ret
    exact ⟨rfl, rfl⟩
  · have hYl : 0 < X.new.length := List.length_pos_iff.2 hY
    simp only [hYl, decide_true] at hp
    have hpH := Lib.hid hp
    rw [if_neg hY]
    clear hp hY h hYl
    go_enter Tryd.func31, Tryd.ntmps31
    go_wp2_with (first
      | (go_at_call 48; ((with_reducible refine (hpH.out).mono ?_); rintro e w' ⟨rfl, rfl⟩))
      | (go_at_call 55; ((with_reducible refine (hsz _).mono ?_); rintro e w' ⟨rfl, rfl⟩)))
    go_ret
    exact ⟨rfl, rfl⟩

end Go.Proofs.YtdldgiicblmknaaDoor
