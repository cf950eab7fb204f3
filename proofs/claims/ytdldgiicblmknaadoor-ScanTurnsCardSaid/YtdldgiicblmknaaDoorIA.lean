/-
  The walks of the methods of a table that is none, of Chain, and of the law's Same. The table of factors holds what the program's text lays.
-/
import Derived.Test.YtdldgiicblmknaaDoorHY
namespace Go.Proofs.YtdldgiicblmknaaDoor
open Go.RowKit

theorem put_nil (key : ByteArray) (v : Int) (w : World) : Calls Tryd.prog 24 #[.pointer none, .string key, .int .i64 v] w fun r w' => r = .returned (.bool false) ∧ w = w' := by
  go_enter Tryd.func24, Tryd.ntmps24
  go_wp2
  go_ret
  exact ⟨rfl, rfl⟩
theorem drop_nil (key : ByteArray) (w : World) : Calls Tryd.prog 25 #[.pointer none, .string key] w fun r w' => r = .returned (.bool false) ∧ w = w' := by
  go_enter Tryd.func25, Tryd.ntmps25
  go_wp2
  go_ret
  exact ⟨rfl, rfl⟩
theorem step_nil (n : Int) (w : World) : Calls Tryd.prog 26 #[.pointer none, .int .i64 n] w fun r w' => r = .returned (.int .i64 0) ∧ w = w' := by
  go_enter Tryd.func26, Tryd.ntmps26
  go_wp2
  go_ret
  exact ⟨rfl, rfl⟩
theorem len_nil (w : World) : Calls Tryd.prog 23 #[.pointer none] w fun r w' => r = .returned (.int .i64 0) ∧ w = w' := by
  go_enter Tryd.func23, Tryd.ntmps23
  go_wp2
  go_ret
  exact ⟨rfl, rfl⟩
theorem size_nil (w : World) : Calls Tryd.prog 30 #[.pointer none] w fun r w' => r = .returned (.int .i64 0) ∧ w = w' := by
  go_enter Tryd.func30, Tryd.ntmps30
  go_wp2
  go_ret
  exact ⟨rfl, rfl⟩
theorem toward_nil (w : World) : Calls Tryd.prog 31 #[.pointer none] w fun r w' => r = .returned (.int .i64 (-1)) ∧ w = w' := by
  go_enter Tryd.func31, Tryd.ntmps31
  go_wp2
  go_ret
  exact ⟨rfl, rfl⟩
theorem keys_nil (w : World) : Calls Tryd.prog 20 #[.pointer none] w fun r w' => r = .returned (.slice none 0 0) ∧ w = w' := by
  go_enter Tryd.func20, Tryd.ntmps20
  go_wp2
  go_ret
  exact ⟨rfl, rfl⟩
theorem chain_nil (b : Bool) (n : Int) (w : World) : Calls Tryd.prog 33 #[.pointer none, .bool b, .int .i64 n] w fun r w' => r = .returned (.slice none 0 0) ∧ w = w' := by
  go_enter Tryd.func33, Tryd.ntmps33
  go_wp2
  go_ret
  exact ⟨rfl, rfl⟩

/-- The keys of a place of a table that is not parted. -/
def chOf (X : Tb) (n : Int) : List En := if 0 ≤ n ∧ n < X.old.length then X.old.getD n.toNat [] else []
theorem owns_keys {w : World} {base : Nat} {v : Value} {L : List En} (how : w.ownsRow base 9 1 v L.length (keyV L)) : ∃ (A : Option Addr) (c : Nat), v = .slice A L.length c ∧ KeysAt w A L := by
  have how2 := how
  obtain ⟨h1, h2 | ⟨g, cap, cur, h2, h3, h4, h5, h6, h7, h8⟩⟩ := how2
  · obtain ⟨rfl, h3⟩ := h2
    have hl : L = [] := List.length_eq_zero_iff.1 h3
    subst hl
    exact ⟨none, 0, rfl, fun j e hj => by simp at hj⟩
  · subst h2
    refine ⟨some ⟨g, 0, none⟩, cap, rfl, ?_⟩
    intro j e hj
    have hlt : j < L.length := (List.getElem?_eq_some_iff.1 hj).1
    refine ⟨g, rfl, some_lt h4, ?_⟩
    rw [how.cellAt j (by omega)]
    simp [keyV, hj]

set_option maxHeartbeats 2000000 in
theorem chain_any {B : Nat} {X : Tb} {w : World} (h : Ok B X w) (ho : X.old ≠ []) (n : Int) :
    Calls Tryd.prog 33 #[.pointer (some ⟨X.T, 0, none⟩), .bool true, .int .i64 n] w fun r w' => ∃ (A : Option Addr) (c : Nat), r = .returned (.slice A (chOf X n).length c) ∧ KeysAt w' A (chOf X n) ∧ Below w.heap.size w w' := by
  have htab := h.live.here.tab
  obtain ⟨b0, hp0⟩ : ∃ b, X.p0 = some b := by
    cases hp : X.p0 with
    | none => exact absurd (h.live.here.p0.1 hp) ho
    | some b => exact ⟨b, rfl⟩
  rw [hp0] at htab
  obtain ⟨c0, c1, c2, c3, c4, _⟩ := tab_facts htab
  simp only [adr, Option.map_some] at c1
  have hle : X.old.length ≤ 65536 := by obtain ⟨k, hk⟩ := h.inv.good.s0; exact hk.le
  have hpl := h.live.here.at_ _ (mem_p0 hp0)
  have hH := Lib.hid h
  by_cases hin : 0 ≤ n ∧ n < X.old.length
  · obtain ⟨i, rfl⟩ := Int.eq_ofNat_of_zero_le hin.1
    have hil : i < X.old.length := by omega
    obtain ⟨c, hc⟩ : ∃ c, X.old[i]? = some c := ⟨_, List.getElem?_eq_getElem hil⟩
    have hch : chOf X (i : Int) = c := by unfold chOf; rw [if_pos hin]; simp [hc]
    rw [hch]
    have hcell := (pl_cell hpl hc).1
    have hlen : c.length ≤ 1000000 := by
      have h1 := h.inv.cnt
      have h2 := h.inv.good.ct
      have h3 : c.length ≤ X.old.flatten.length := by
        obtain ⟨hi2, hc2⟩ := List.getElem?_eq_some_iff.1 hc
        have h4 : X.old.flatten = (X.old.take i).flatten ++ (X.old.drop i).flatten := by rw [← List.flatten_append, List.take_append_drop]
        rw [h4, List.drop_eq_getElem_cons hi2, hc2]; simp; omega
      have h5 : X.ents.length = X.old.flatten.length + (X.new.flatten.length + X.ext.length) := by unfold Tb.ents; simp
      omega
    have hwk := withKeys_any w.heap.size (.slice none 0 0) 0 [] c w (World.ownsRow_nil w w.heap.size 9 1) (Nat.le_refl _) (fun wr hb => by
      have h6 := hH.out.live.here.on (O := []) ⟨hb.mono (Nat.zero_le _), fun k hk _ => hb.block k hk⟩ (fun _ _ => by simp)
      exact fun q hq => h6.at_ q (mem_old (List.mem_of_getElem? hc) hq)) (by omega)
    have hwkH := Lib.hid hwk
    have hd1 : decide (i < X.old.length) = true := by simpa using hil
    have hd2 : decide (X.old.length ≤ i) = false := by simp; omega
    have hd3 : decide ((X.old.length : Int) ≤ (i : Int)) = false := by simp; omega
    clear hwk h hpl hc hin htab
    go_enter Tryd.func33, Tryd.ntmps33
    go_wp2_with (go_at_call 41; ((with_reducible refine (hwkH.out).mono ?_); rintro r w3 ⟨v3, rfl, how3, hb3, _⟩))
    go_ret
    rw [Nat.zero_add, List.nil_append] at how3
    obtain ⟨A, cc, rfl, hk⟩ := owns_keys how3
    exact ⟨A, cc, rfl, hk, hb3⟩
  · have hch : chOf X n = [] := by unfold chOf; rw [if_neg hin]
    rw [hch]
    clear h hpl htab
    by_cases hn0 : n < 0
    · have hd1 : decide (n < 0) = true := by simpa using hn0
      go_enter Tryd.func33, Tryd.ntmps33
      go_wp2_with fail
      go_ret
      first
        | exact ⟨none, 0, rfl, (fun j e hj => by simp at hj), Below.refl _ _⟩
        | exact ⟨⟨0, rfl⟩, Below.refl _ _⟩
        | exact ⟨⟨none, 0, rfl, (fun j e hj => by simp at hj)⟩, Below.refl _ _⟩
        | exact ⟨none, ⟨0, rfl⟩, (fun j e hj => by simp at hj), Below.refl _ _⟩
    · have hd1 : decide (n < 0) = false := by simpa using hn0
      have hd2 : decide ((X.old.length : Int) ≤ n) = true := by simp; omega
      go_enter Tryd.func33, Tryd.ntmps33
      go_wp2_with fail
      go_ret
      first
        | exact ⟨none, 0, rfl, (fun j e hj => by simp at hj), Below.refl _ _⟩
        | exact ⟨⟨0, rfl⟩, Below.refl _ _⟩
        | exact ⟨⟨none, 0, rfl, (fun j e hj => by simp at hj)⟩, Below.refl _ _⟩
        | exact ⟨none, ⟨0, rfl⟩, (fun j e hj => by simp at hj), Below.refl _ _⟩

/-- Two rows of the same keys. -/
theorem keys_on {w w' : World} {A : Option Addr} {L : List En} (h : KeysAt w A L) (hb : Below w.heap.size w w') : KeysAt w' A L := by
  intro j e hj
  obtain ⟨g, rfl, h1, h2⟩ := h j e hj
  exact ⟨g, rfl, by have := hb.size; omega, (hb.cell (p := ⟨g, j, none⟩) h1).trans h2⟩

set_option maxHeartbeats 2000000 in
theorem same_any {w : World} {A A' : Option Addr} {c c' : Nat} {L L' : List En} (h : KeysAt w A L) (h' : KeysAt w A' L') (hk : L.map (fun e => e.2.1) = L'.map fun e => e.2.1) (hl : L.length ≤ 1000000) :
    Calls Tryd.prog 19 #[.slice A L.length c, .slice A' L'.length c'] w fun r w' => r = .returned (.bool true) ∧ Only [] w w' := by
  have hll : L'.length = L.length := by have := congrArg List.length hk; simpa using this.symm
  rw [hll]
  have hH := Lib.hid h
  have hH' := Lib.hid h'
  have hkH := Lib.hid hk
  clear h h' hk
  generalize hn : L.length = n at *
  have hnH := Lib.hid hn
  clear hn hll
  go_enter Tryd.func19, Tryd.ntmps19
  go_wp2_with fail
  go_loopw [5] (fun s5 wr => ∃ i : Nat, i ≤ n ∧ s5 = .int .i64 i ∧ Hid (Only [] w wr)) (fun s5 _ => n - (intOf s5).toNat)
  case atStart => exact ⟨0, by omega, rfl, Lib.hid (Only.refl _ _)⟩
  case round =>
    obtain ⟨i, hi, rfl, hon⟩ := hrel
    by_cases hil : i < n
    · obtain ⟨e, he⟩ : ∃ e, L[i]? = some e := ⟨_, List.getElem?_eq_getElem (by rw [hnH.out]; exact hil)⟩
      obtain ⟨e', he', hke⟩ : ∃ e', L'[i]? = some e' ∧ e'.2.1 = e.2.1 := by
        have h1 := congrArg (fun l => l[i]?) hkH.out
        simp only [List.getElem?_map, he, Option.map_some] at h1
        obtain ⟨e', h2, h3⟩ := Option.map_eq_some_iff.1 h1.symm
        exact ⟨e', h2, h3⟩
      obtain ⟨g1, rfl, hg1, hc1⟩ := hH.out i e he
      obtain ⟨g2, rfl, hg2, hc2⟩ := hH'.out i e' he'
      rw [hke] at hc2
      have d1 := (World.cell?_of_block (w := w) (a := ⟨g1, i, none⟩) (hon.out.2 g1 hg1 (by simp))).trans hc1
      have d2 := (World.cell?_of_block (w := w) (a := ⟨g2, i, none⟩) (hon.out.2 g2 hg2 (by simp))).trans hc2
      have y1 : wr.drew.cell? ⟨g1, i, none⟩ = some (.string e.2.1) := d1
      have y2 : wr.drew.cell? ⟨g2, i, none⟩ = some (.string e.2.1) := d2
      have hbq : (e.2.1.toList == e.2.1.toList) = true := by simp
      clear he he' hke hc1 hc2
      generalize e.2.1 = kk0 at *
      go_wp2_with fail
      go_region
      go_wp2_with fail
      go_roundw
      case rel => exact ⟨i + 1, by omega, by go_num, Lib.hid (hon.out.drewN 1)⟩
      case measure => simp [intOf]; omega
    · have : i = n := by omega
      subst this
      go_wp2_with fail
      go_ret
      exact ⟨rfl, hon.out⟩

end Go.Proofs.YtdldgiicblmknaaDoor
