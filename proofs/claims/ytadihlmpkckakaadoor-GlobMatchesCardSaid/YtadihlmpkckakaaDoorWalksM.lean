/-
  The walk of the document's own plain pattern. A premise: texts no longer than 65536 bytes.
-/
import Derived.Test.YtadihlmpkckakaaDoorWalksL
import Derived.Lib.BufferRead
import Derived.Lib.Builder
namespace Go.Proofs.YtadihlmpkckakaaDoor
open Go.RowKit Gl

theorem conv_own {w : World} {B : Nat} {v : Value} {t : List UInt8} (h : w.ownsRow B 5 1 v t.length (Lib.byteCells t)) : (convert 45 9 v).run Tryd.prog w = .ok (.string ⟨t.toArray⟩) w := by
  rcases h.2 with ⟨rfl, h0⟩ | ⟨g, cap, cur, rfl, _, hg, _, _, _, htk⟩
  · obtain rfl : t = [] := List.eq_nil_of_length_eq_zero h0
    exact Lib.run_convert_nil_bytes w 45 9 5 0 Tryd.underlying45 Tryd.underlying5 Tryd.underlying9
  · refine run_convert_bytes_back w 45 9 5 ⟨g, 0, none⟩ cap t Tryd.underlying45 Tryd.underlying5 Tryd.underlying9 (Lib.bytes_of_row hg ?_)
    rw [← htk, Nat.mul_one]
theorem PRow.grown {w w' : World} {g : Nat} {ps : List Part} {row : Option Nat} (h : PRow w g ps) (hg : w.grownBy w' row) (hne : row ≠ some g) : PRow w' g ps := by
  obtain ⟨cur, h1, h2⟩ := h
  exact ⟨cur, (hg.block g h1.lt (fun e => hne e.symm)).trans h1, h2⟩
theorem PRow.notOwn {w : World} {g B n : Nat} {ps : List Part} {v : Value} {xs : List Value} (h : PRow w g ps) (hown : w.ownsRow B 5 1 v n xs) : v.ownBlock ≠ some g := by
  obtain ⟨cur, h1, _⟩ := h
  exact Lib.ownBlock_ne hown h1 (by decide)
/-- Where the document's reading of a plain pattern stands. -/
structure PIn (w0 : World) (g : Nat) (ps : List Part) (v : Value) (t : List UInt8) (W : World) : Prop where
  own : W.ownsRow w0.heap.size 5 1 v t.length (Lib.byteCells t)
  row : PRow W g ps
  bel : Below w0.heap.size w0 W
theorem bytes_take {ps : List Part} {k : Nat} {b : UInt8} {t : List UInt8} (h : ps[k]? = some (.byte b)) (ht : bytesOf (ps.take k) = some t) : bytesOf (ps.take (k + 1)) = some (t ++ [b]) := by
  rw [take_next h, bytesOf_append, ht]
  rfl
theorem bytes_none {ps : List Part} {k : Nat} {p : Part} (h : ps[k]? = some p) (hp : ∀ b, p ≠ .byte b) : bytesOf ps = none := by
  cases hb : bytesOf ps with
  | none => rfl
  | some l =>
    rw [bytesOf_some ps l hb] at h
    rw [List.getElem?_map] at h
    cases hl : l[k]? with
    | none => rw [hl] at h; cases h
    | some b => rw [hl] at h; exact absurd (Option.some.inj h).symm (hp b)
theorem byte_or {p : Part} : (∃ b, p = .byte b) ∨ (∀ b, p ≠ .byte b) ∧ (pkind p != 4) = true := by
  rcases p with _ | _ | F | b
  · exact Or.inr ⟨(fun b e => by cases e), rfl⟩
  · exact Or.inr ⟨(fun b e => by cases e), rfl⟩
  · exact Or.inr ⟨(fun b e => by cases e), rfl⟩
  · exact Or.inl ⟨b, rfl⟩
/-- A text, and behind it a byte that has been come by. -/
def upByte (t : List UInt8) (b : UInt8) (m : Nat) : List UInt8 := if b.toNat < m then t ++ [b] else t
theorem upByte_len (t : List UInt8) (b : UInt8) (m : Nat) : (upByte t b m).length ≤ t.length + 1 := by unfold upByte; split <;> simp
theorem upByte_hit {t : List UInt8} {b : UInt8} {m : Nat} (h : m = b.toNat) : upByte t b m = t ∧ upByte t b (m + 1) = t ++ [b] := by
  subst h
  unfold upByte
  rw [if_neg (by omega), if_pos (by omega)]
  exact ⟨rfl, rfl⟩
theorem upByte_miss {t : List UInt8} {b : UInt8} {m : Nat} (h : ¬ m = b.toNat) : upByte t b (m + 1) = upByte t b m := by
  unfold upByte
  by_cases h2 : b.toNat < m
  · rw [if_pos h2, if_pos (by omega)]
  · rw [if_neg h2, if_neg (by omega)]
theorem upByte_end (t : List UInt8) (b : UInt8) : upByte t b 256 = t ++ [b] := by
  unfold upByte; rw [if_pos (by have := b.toNat_lt; omega)]
theorem upByte_start (t : List UInt8) (b : UInt8) : upByte t b 0 = t := by unfold upByte; rw [if_neg (by omega)]
theorem has_byte {W : World} {g k : Nat} {ps : List Part} {b : UInt8} (h : PRow W g ps) (hk : ps[k]? = some (.byte b)) (m : Nat) (hm : m < 256) : W.cell? ⟨g, k * 257 + 1 + m, none⟩ = some (.bool (oneByte b.toNat m)) := by
  have := h.has hk (UInt8.ofNat m)
  have e : (UInt8.ofNat m).toNat = m := by simp; omega
  rw [e] at this
  exact this

theorem one_cell (w : World) (v : Value) {t : TypeId} : ∀ j u, [v][j]? = some u → (w.alloc (.cells #[v] t)).cell? ((⟨w.heap.size, 0, none⟩ : Addr).add j) = some u := new_cells w #[v]
theorem one_one (n : Int) {k : IntKind} : ∀ u ∈ [Value.int k n], u.oneCell' = true := by intro u hu; simp at hu; subst hu; rfl
theorem pin_next {w0 W w2 : World} {g : Nat} {ps : List Part} {v v' : Value} {t : List UInt8} {m : Nat} {b : UInt8} {o : Obj} (hP : PIn w0 g ps v t W) (hown : w2.ownsRow w0.heap.size 5 1 v' (t.length + 1) (Lib.byteCells t ++ [.int .u8 (m : Int)]))
    (hg : (W.alloc o).grownBy w2 v.ownBlock) (hm : m = b.toNat) : PIn w0 g ps v' (t ++ [b]) w2 := by
  subst hm
  refine ⟨by rw [cells_snoc]; simpa using hown, (hP.row.alloc o).grown hg (hP.row.notOwn hP.own), ?_⟩
  exact (hP.bel.alloc hP.bel.size o).grown hg (by simp; have := hP.bel.size; omega) fun k hk => (hP.own.lt k hk).1

set_option maxRecDepth 100000 in
set_option maxHeartbeats 2000000 in
theorem rplain_any (s : ByteArray) (w : World) (hs : s.size ≤ 65536) : Calls Tryd.prog 12 #[.string s] w (PlainEnd s w) := by
  obtain ⟨i0, hi, hz0, hz1, hz2⟩ := info_parts byte_info
  go_enter Tryd.func12, Tryd.ntmps12
  go_upto_block 0 with (go_at_call 20; (with_reducible refine (rparts_any s _ hs).mono ?_); rintro e w' ⟨v, rfl, hown, hbP⟩)
  obtain ⟨ps, hps⟩ : ∃ ps : List Part, Hid (parts s.data.toList = ps) := ⟨_, Lib.hid rfl⟩
  rw [hps.out] at hown
  have hle := parts_small hps.out hs
  go_cut [5, 6, 7] from 10 to 37 (fun s5 _ _ wx => ∃ t : List UInt8, wx.ownsRow w.heap.size 5 1 s5 t.length (Lib.byteCells t) ∧ Hid (bytesOf ps = some t) ∧ Below w.heap.size w wx)
  case first =>
    rcases hown.2 with ⟨rfl, h0⟩ | ⟨g, cap, cur, rfl, hg1, hg2, hg3, hg4, _⟩
    · have hfin : Hid (bytesOf ps = some []) := Lib.hid (by rw [List.eq_nil_of_length_eq_zero h0]; rfl)
      clear hown
      go_wp2_with fail
      refine wp_loop_rounds 1 ?_
      rw [rounds_succ]
      go_wp2_with fail
      go_meet
      case rel => exact ⟨[], World.ownsRow_nil _ _ _ _, hfin, hbP⟩
    · have hrow := (prow_of hown).1
      have hP : PIn w g ps (.slice none 0 0) [] w' := ⟨World.ownsRow_nil _ _ _ _, hrow, hbP⟩
      clear hown hbP hg1 hg2 hg3 hg4 hrow
      go_wp2_with fail
      go_loopw [5, 6, 7] (fun s5 s6 _ wr => ∃ (k : Nat) (t : List UInt8), k ≤ ps.length ∧ t.length ≤ k ∧ s6 = .int .i64 k ∧ PIn w g ps s5 t wr ∧ Hid (bytesOf (ps.take k) = some t)) (fun _ s6 _ _ => ps.length - (intOf s6).toNat)
      case atStart => exact ⟨0, [], by omega, by simp, rfl, hP, Lib.hid rfl⟩
      case round =>
        clear hP
        obtain ⟨k, t, hk, ht, rfl, hP, hT⟩ := hrel
        by_cases hlt : k < ps.length
        · obtain ⟨p, hpk⟩ := part_at hlt
          have hk0 := hP.row.kind hpk
          rcases byte_or (p := p) with ⟨b, rfl⟩ | ⟨hb, hb4⟩
          · have hpH := Lib.hid hpk
            have hT2 := Lib.hid (bytes_take hpk hT.out)
            have hk4 : pkind (.byte b) = 4 := rfl
            rw [hk4] at hk0
            clear hpk hk4
            go_wp2_with fail
            obtain ⟨wo, rfl⟩ : ∃ wo : World, wo = wr := ⟨_, rfl⟩
            go_loopw [5, 7] (fun s5 s7 wr => ∃ m : Nat, m ≤ 256 ∧ s7 = .int .i64 m ∧ PIn w g ps s5 (upByte t b m) wr) (fun _ s7 _ => 256 - (intOf s7).toNat)
            case atStart => exact ⟨0, by omega, rfl, by rw [upByte_start]; exact hP⟩
            case round =>
              clear hk0 hP
              obtain ⟨m, hm, rfl, hP⟩ := hrel
              by_cases hlm : m < 256
              · have hcell := has_byte hP.row hpH.out m hlm
                by_cases hmb : m = b.toNat
                · have hup := upByte_hit (t := t) (b := b) hmb
                  rw [hup.1] at hP
                  have hup2 := Lib.hid hup.2
                  have hbz := hP.bel.size
                  clear hup
                  rw [show oneByte b.toNat m = true by unfold oneByte; rw [if_pos hmb]] at hcell
                  have hmbH := Lib.hid hmb
                  clear hmb
                  go_wp2_with (at_builtin; refine wpList_append_own _ rfl (.tmp 33) (.tmp 36) 45 rfl w.heap.size 5 i0 (.int .u8 0) 1 1 Tryd.underlying45 hi hz0 hz1 hz2 rfl (by decide) u5 t.length (Lib.byteCells t) rfl (hP.own.alloc _) ⟨wr.heap.size, 0, none⟩ 1 1 [.int .u8 (m : Int)] rfl rfl (one_cell wr (.int .u8 (m : Int))) (one_one _) (by unfold maxLen; omega) (by omega) (by simp; omega) ?_)
                  intro v' w2 hown' hgrow _
                  have hP2 := pin_next hP hown' hgrow hmbH.out
                  clear hown' hgrow
                  go_wp2_with fail
                  go_roundw
                  case rel => exact ⟨m + 1, by omega, by go_num, by rw [hup2.out]; exact hP2⟩
                  case measure => simp [intOf]; omega
                · have hup := Lib.hid (upByte_miss (t := t) (b := b) hmb)
                  rw [show oneByte b.toNat m = false by unfold oneByte noByte; rw [if_neg hmb]] at hcell
                  clear hmb
                  go_wp2_with fail
                  go_roundw
                  case rel => exact ⟨m + 1, by omega, by go_num, by rw [hup.out]; exact hP⟩
                  case measure => simp [intOf]; omega
              · have hme : m = 256 := by omega
                subst hme
                rw [upByte_end] at hP
                go_wp2_with fail
                go_roundw
                case rel => exact ⟨k + 1, t ++ [b], by omega, by simp; omega, by go_num, hP, hT2⟩
                case measure => simp [intOf]; omega
          · have hn := Lib.hid (bytes_none hpk hb)
            clear hpk hb
            go_wp2_with fail
            go_ret2
            exact plain_none (by rw [hps.out]; exact hn.out) hP.bel
        · have hfin : Hid (bytesOf ps = some t) := Lib.hid (by have := hT.out; rwa [List.take_of_length_le (by omega)] at this)
          have hk2 : k = ps.length := by omega
          subst hk2
          go_wp2_with fail
          go_meet
          case rel => exact ⟨t, hP.own, hfin, hP.bel⟩
  case rest =>
    obtain ⟨t, hown2, hfin, hbel⟩ := hcut
    have hcv := conv_own hown2
    go_wp2_with fail
    go_ret2
    exact plain_some (by rw [hps.out]; exact hfin.out) hbel

end Go.Proofs.YtadihlmpkckakaaDoor
