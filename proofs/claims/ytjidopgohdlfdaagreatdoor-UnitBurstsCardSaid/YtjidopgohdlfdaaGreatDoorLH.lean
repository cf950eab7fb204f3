/-
  The walk of the splitting of a line. Premises: the text is no longer than 65536 bytes; the library's variable ErrSyntax holds an error, or none.
-/
import Derived.Test.YtjidopgohdlfdaaGreatDoorLG
import Derived.Laws.MakeOwn
namespace Go.Proofs.YtjidopgohdlfdaaGreatDoor.S4
open Go.RowKit Ln

def strV (ss : List ByteArray) : List Value := ss.map Value.string
def txt (ss : List ByteArray) : List (List UInt8) := ss.map fun s => s.data.toList
theorem str_info : (Tryz.prog.info? 9).map (fun i => (i.zero, i.size, i.bytes)) = some (some (.string ⟨#[]⟩), 1, 16) := by kernel_rfl
theorem new_cells (w : World) (cs : List Value) {t : TypeId} : ∀ j u, cs[j]? = some u → (w.alloc (.cells cs.toArray t)).cell? ((⟨w.heap.size, 0, none⟩ : Addr).add j) = some u := by
  intro j u hu
  have hadd : (⟨w.heap.size, 0, none⟩ : Addr).add j = ⟨w.heap.size, j, none⟩ := by unfold Addr.add; split <;> simp_all
  rw [hadd, Lib.cell_of_heap (heap_alloc_new w (.cells cs.toArray t)) j]
  simpa using hu
theorem one_cell (w : World) (v : Value) {t : TypeId} : ∀ j u, [v][j]? = some u → (w.alloc (.cells #[v] t)).cell? ((⟨w.heap.size, 0, none⟩ : Addr).add j) = some u := new_cells w [v]
theorem one_str (x : ByteArray) : ∀ u ∈ [Value.string x], u.oneCell' = true := by intro u hu; simp at hu; subst hu; rfl
theorem heap_lt {w : World} {b : Nat} {o : Obj} (h : w.heap[b]? = some o) : b < w.heap.size := (Array.getElem?_eq_some_iff.1 h).1
theorem grown_below {W W' : World} (h : Below W.heap.size W W') (r : Option Nat) : W.grownBy W' r := ⟨h.os, h.tape, h.output, h.size, fun i hi _ => h.block i hi⟩
/-- A row of texts that the call has made. -/
structure Txts (w0 : World) (ss : List ByteArray) (v : Value) (W : World) : Prop where
  own : W.ownsRow w0.heap.size 9 1 v ss.length (strV ss)
  bel : Below w0.heap.size w0 W
theorem Txts.move {w0 W W' : World} {ss : List ByteArray} {v : Value} (h : Txts w0 ss v W) (hb : Below W.heap.size W W') : Txts w0 ss v W' := by
  refine ⟨?_, h.bel.trans (hb.mono h.bel.size)⟩
  cases hv : v.ownBlock with
  | none => exact h.own.kept (row := none) (grown_below hb _) (Or.inl hv)
  | some g =>
    rcases h.own.2 with ⟨rfl, _⟩ | ⟨g', cap, cur, rfl, h1, h2, h3⟩
    · cases hv
    · have hlt := heap_lt h2
      exact ⟨h.own.1, Or.inr ⟨g', cap, cur, rfl, h1, (hb.block g' hlt).trans h2, h3⟩⟩
theorem Txts.none_ (w : World) : Txts w [] (.slice none 0 0) w := ⟨World.ownsRow_nil _ _ _ _, Below.refl _ _⟩
theorem Txts.next {w0 W w2 : World} {ss : List ByteArray} {v v' : Value} {x : ByteArray} {o : Obj} (h : Txts w0 ss v W)
    (hown : w2.ownsRow w0.heap.size 9 1 v' (ss.length + 1) (strV ss ++ [.string x])) (hg : (W.alloc o).grownBy w2 v.ownBlock) : Txts w0 (ss ++ [x]) v' w2 := by
  refine ⟨?_, (h.bel.alloc h.bel.size o).grown hg (by simp; have := h.bel.size; omega) fun k hk => (h.own.lt k hk).1⟩
  have e : strV (ss ++ [x]) = strV ss ++ [.string x] := by simp [strV]
  rw [e]
  simpa using hown
/-- How a splitting ends. -/
def SplitEnd (T : Option (List (List UInt8))) (w : World) (e : Ending) (w' : World) : Prop := match T with
  | none => e = .returned (.tuple #[.slice none 0 0, .bool false]) ∧ Below w.heap.size w w'
  | some l => ∃ ss v, txt ss = l ∧ e = .returned (.tuple #[v, .bool true]) ∧ Txts w ss v w'
def strSize (v : Value) : Nat := match v with
  | .string b => b.size
  | _ => 0
theorem ErrAt.lt {w : World} (h : ErrAt w) : 7 < w.heap.size := by
  obtain ⟨ev, h1, _⟩ := h
  exact Lib.lt_of_cell h1
theorem rst_data (s : ByteArray) : (rst s).data.toList = s.data.toList.dropWhile gapC := by simp [rst]
theorem rst_size (s : ByteArray) : (rst s).size ≤ s.size := by
  have h1 : (rst s).data.toList.length = (rst s).size := by simp
  have h2 : s.data.toList.length = s.size := by simp
  have h3 := (List.dropWhile_sublist gapC (l := s.data.toList)).length_le
  rw [rst_data] at h1
  omega

set_option maxRecDepth 100000 in
set_option maxHeartbeats 4000000 in
theorem split_any (s : ByteArray) (w : World) (hs : s.size ≤ 65536) (hE : ErrAt w) :
    Calls Tryz.prog 95 #[.string s] w (SplitEnd (spl s.data.toList) w) := by
  obtain ⟨i0, hi, hz0, hz1, hz2⟩ := info_parts str_info
  obtain ⟨T, hT⟩ : ∃ T, T = spl s.data.toList := ⟨_, rfl⟩
  rw [← hT]
  have hT1 : Hid (go (txt []) 0 false false [] 0 (rst s).data.toList = T) := Lib.hid (by rw [rst_data, go_rst, hT]; rfl)
  have hEH := Lib.hid hE
  have hrs := rst_size s
  have hre : Hid ((rst s).data.toList = [] ∨ ends (rst s).data.toList = false) := Lib.hid (by
    rw [rst_data]
    by_cases h : s.data.toList.dropWhile gapC = []
    · exact Or.inl h
    · exact Or.inr (rst_ends h))
  clear hT hE
  go_enter Tryz.func95, Tryz.ntmps95
  go_wp2_with (go_at_call 105; ((with_reducible refine (trim_any s _).mono ?_); rintro e w1 ⟨rfl, hb1⟩))
  generalize rst s = r0 at hT1 hrs hre ⊢
  have hP0 := (Txts.none_ w).move hb1
  go_loopw [4, 5] (fun v rv wr => ∃ (r : ByteArray) (ss : List ByteArray), rv = .string r ∧ ss.length + r.size ≤ s.size ∧ Hid (go (txt ss) 0 false false [] 0 r.data.toList = T) ∧ Hid (r.data.toList = [] ∨ ends r.data.toList = false) ∧ Txts w ss v wr) (fun _ rv _ => strSize rv)
  case atStart => exact ⟨r0, [], rfl, by simpa using hrs, hT1, hre, hP0⟩
  case round =>
    clear hT1 hrs hre hP0
    obtain ⟨r, ss, rfl, hlen, hT1, hre, hP⟩ := hrel
    by_cases hemp : r.data.toList = []
    · have hR : Hid (T = some (txt ss)) := Lib.hid (by rw [← hT1.out, hemp, go]; simp)
      have he : r.toList = [] := by rw [Lib.toList_data]; exact hemp
      clear hemp hT1 hre
      go_wp2_with fail
      go_ret2
      rw [hR.out]
      exact ⟨ss, _, rfl, rfl, hP⟩
    · have he : r.toList.isEmpty = false := by
        rw [Lib.toList_data]
        cases h : r.data.toList with
        | nil => exact absurd h hemp
        | cons _ _ => rfl
      have he2 : ¬ r.toList = [] := by rw [Lib.toList_data]; exact hemp
      have hrl : r.data.toList.length = r.size := by simp
      have hr1 : 1 ≤ r.data.toList.length := List.length_pos_iff.2 hemp
      have hA := argument_any r wr (by omega) (hEH.out.on hP.bel)
      have hre' := hre.out.resolve_left hemp
      -- what the argument makes of the arguments so far
      have hA2 : Calls Tryz.prog 106 #[.string r] wr fun e w' => Below wr.heap.size wr w' ∧ ((T = none ∧ e = .returned (.tuple #[.string ⟨#[]⟩, .int .i64 0, .bool false])) ∨
          ∃ (a : ByteArray) (n : Nat), 1 ≤ n ∧ n ≤ r.size ∧ go (txt (ss ++ [a])) 0 false false [] 0 (r.data.toList.drop n) = T ∧ e = .returned (.tuple #[.string a, .int .i64 (n : Int), .bool true])) := by
        refine hA.mono ?_
        rintro e w' ⟨k, hk, hB, hnb, hb, he⟩
        refine ⟨hb, ?_⟩
        have hne : r.data.toList.take k ≠ [] ∨ ends (r.data.toList.drop k) = false := by
          by_cases hk0 : k = 0
          · subst hk0; exact Or.inr (by simpa using hre')
          · left
            intro h
            have := congrArg List.length h
            rw [List.length_take, List.length_nil] at this
            omega
        have hg := go_arg (txt ss) (r.data.toList.take k) (r.data.toList.drop k) hB hnb hne
        rw [List.take_append_drop, hT1.out] at hg
        cases hR : argR (r.data.toList.take k) (r.data.toList.drop k) with
        | none =>
          rw [hR] at hg he
          exact Or.inl ⟨hg, he⟩
        | some x =>
          rw [hR] at hg he
          have hle := argR_le hR hne
          rw [List.length_take, List.length_drop] at hle
          refine Or.inr ⟨⟨x.1.toArray⟩, x.2, hle.1, by omega, ?_, he⟩
          rw [hg]
          simp [txt]
      have hA2H := Lib.hid hA2
      clear hemp hrl hr1 hA hre' hT1 hre hA2
      go_wp2_with fail
      refine hA2H.out.mono ?_
      rintro e w1 ⟨hb1, ⟨hTn, rfl⟩ | ⟨a, n, hn1, hn2, hgo, rfl⟩⟩
      · have hTnH := Lib.hid hTn
        clear hTn
        go_wp2_with fail
        go_ret2
        rw [hTnH.out]
        exact ⟨rfl, (hP.move hb1).bel⟩
      · have hgoH := Lib.hid hgo
        have hP1 := hP.move hb1
        have hz := hP1.bel.size
        have hssl : ss.length ≤ 65536 := by omega
        clear hgo hP hA2H
        go_wp2_with (at_builtin; refine wpList_append_own _ rfl (.tmp 21) (.tmp 23) 49 rfl w.heap.size 9 i0 (.string ⟨#[]⟩) 1 16 Tryz.underlying49 hi hz0 hz1 hz2 rfl (by decide) u4 ss.length (strV ss) rfl (hP1.own.alloc _) ⟨w1.heap.size, 0, none⟩ 1 1 [.string a] rfl rfl (one_cell w1 (.string a)) (one_str a) (by unfold maxLen; omega) (by omega) (by simp; omega) ?_)
        intro v' w2 hown' hgrow _
        have hP2 := hP1.next hown' hgrow
        clear hown' hgrow hP1
        have hT2 : Hid (go (txt (ss ++ [a])) 0 false false [] 0 (rst (r.extract n r.size)).data.toList = T) := Lib.hid (by rw [rst_data, go_rst, ext_data]; exact hgoH.out)
        have hre2 : Hid ((rst (r.extract n r.size)).data.toList = [] ∨ ends (rst (r.extract n r.size)).data.toList = false) := Lib.hid (by
          rw [rst_data]
          by_cases h : (r.extract n r.size).data.toList.dropWhile gapC = []
          · exact Or.inl h
          · exact Or.inr (rst_ends h))
        have hrs2 := rst_size (r.extract n r.size)
        have hes : (r.extract n r.size).size = r.size - n := by simp
        rw [hes] at hrs2
        clear hes
        go_wp2_with (go_at_call 105; ((with_reducible refine (trim_any (r.extract n r.size) _).mono ?_); rintro e w3 ⟨rfl, hb3⟩))
        generalize rst (r.extract n r.size) = r2 at hT2 hre2 hrs2 ⊢
        have hP3 := hP2.move hb3
        go_roundw
        case rel => exact ⟨r2, ss ++ [a], rfl, by simp; omega, hT2, hre2, hP3⟩
        case measure => simp [strSize]; omega
end Go.Proofs.YtjidopgohdlfdaaGreatDoor.S4
