/-
  Chains in memory, and the walk that looks a key up in both halves of a table. No condition but the sizes that places have.
-/
import Derived.Test.YtdldgiicblmknaaDoorHB
import Derived.Deep.LoopGhost
namespace Go.Proofs.YtdldgiicblmknaaDoor
open Go.RowKit

/-- An entry: its block, its key, its value. -/
abbrev En := Nat × ByteArray × Int
/-- What points to a chain. -/
def hd : List En → Option Addr
  | [] => none
  | e :: _ => some ⟨e.1, 0, none⟩
def entry (e : En) (q : Option Addr) : Obj := .cells #[.string e.2.1, .int .i64 e.2.2, .pointer q] 73 (0, 0)
/-- The blocks of a chain. -/
def chObjs : List En → List (Nat × Obj)
  | [] => []
  | e :: L => (e.1, entry e (hd L)) :: chObjs L
def ChainAt (w : World) (L : List En) : Prop := ∀ q ∈ chObjs L, w.heap[q.1]? = some q.2
theorem ChainAt.head {w : World} {e : En} {L : List En} (h : ChainAt w (e :: L)) : w.heap[e.1]? = some (entry e (hd L)) := h _ (List.mem_cons_self ..)
theorem ChainAt.tail {w : World} {e : En} {L : List En} (h : ChainAt w (e :: L)) : ChainAt w L := fun q hq => h q (List.mem_cons_of_mem _ hq)
theorem entry_facts {w : World} {e : En} {q : Option Addr} (h : w.heap[e.1]? = some (entry e q)) :
    w.cell? ⟨e.1, 0, none⟩ = some (.string e.2.1) ∧ w.cell? ⟨e.1, 1, none⟩ = some (.int .i64 e.2.2) ∧ w.cell? ⟨e.1, 2, none⟩ = some (.pointer q) ∧ w.frozen? ⟨e.1, 0, none⟩ = false ∧ w.frozen? ⟨e.1, 1, none⟩ = false ∧ w.frozen? ⟨e.1, 2, none⟩ = false := by
  unfold entry at h
  refine ⟨Lib.cell_of_heap h 0, Lib.cell_of_heap h 1, Lib.cell_of_heap h 2, ?_, ?_, ?_⟩ <;> simp [World.frozen?, h]
/-- The places of a half. -/
def plObj (l : List (List En)) : Obj := .cells (l.map fun c => Value.pointer (hd c)).toArray 67 (0, 0)
theorem pl_cell {w : World} {b : Nat} {l : List (List En)} (h : w.heap[b]? = some (plObj l)) {i : Nat} {c : List En} (hc : l[i]? = some c) : w.cell? ⟨b, i, none⟩ = some (.pointer (hd c)) ∧ w.frozen? ⟨b, i, none⟩ = false := by
  unfold plObj at h
  refine ⟨?_, by simp [World.frozen?, h]⟩
  have := Lib.cell_of_heap h i
  rw [this]
  simp [hc]
/-- A half in memory. -/
def HalfAt (w : World) (a : Option Addr) (l : List (List En)) : Prop := (a = none ∧ l = []) ∨ (∃ b, a = some ⟨b, 0, none⟩ ∧ 0 < l.length ∧ w.heap[b]? = some (plObj l) ∧ ∀ c ∈ l, ChainAt w c)
/-- Where the pointer to a key's entry stands, from the pointer to a chain on. -/
def fnd (key : ByteArray) : Addr → List En → Option Addr
  | _, [] => none
  | p, e :: L => if e.2.1 = key then some p else fnd key ⟨e.1, 2, none⟩ L
def fndH (key : ByteArray) (H : Nat) (a : Option Addr) (l : List (List En)) : Option Addr := match a with
  | none => none
  | some p => fnd key ⟨p.block, H % l.length, none⟩ (l.getD (H % l.length) [])
def fndT (key : ByteArray) (H : Nat) (a0 a1 : Option Addr) (l0 l1 : List (List En)) : Option Addr := match fndH key H a0 l0 with
  | some p => some p
  | none => fndH key H a1 l1

theorem bytes_eq {a b : ByteArray} (h : (a.toList == b.toList) = true) : a = b := by
  have h1 : a.toList = b.toList := by simpa using h
  rw [Lib.toList_data, Lib.toList_data] at h1
  cases a; cases b
  simp only [ByteArray.mk.injEq]
  exact Array.toList_inj.1 h1
theorem bytes_ne {a b : ByteArray} (h : (a.toList == b.toList) = false) : a ≠ b := fun he => by simp [he] at h
theorem run_half (s0 s1 : Value) (i : Nat) (hi : i < 2) (w : World) : Sem.run Tryd.prog (Instr.index 58 (.agg #[s0, s1]) (.int .i64 (i : Int))) w = .ok (if i = 0 then s0 else s1) w := by
  rcases i with _ | _ | i
  · simp [Instr.index, go_sem, Tryd.sizeOf57]
  · simp [Instr.index, go_sem, Tryd.sizeOf57]
  · omega

set_option maxHeartbeats 1000000 in
theorem find_any {T : Nat} {sd : Int} {a0 a1 : Option Addr} {l0 l1 : List (List En)} {mv ct k0 k1 : Nat} (w : World) (h : TabC w T sd a0 a1 l0.length l1.length mv ct)
    (h0 : HalfAt w a0 l0) (h1 : HalfAt w a1 l1) (hk0 : SzOk l0.length k0) (hk1 : SzOk l1.length k1) (key : ByteArray) (H : Nat) (hH : H < 18446744073709551616) :
    Calls Tryd.prog 43 #[.pointer (some ⟨T, 0, none⟩), .string key, .int .u64 (H : Int)] w fun e w' => e = .returned (.pointer (fndT key H a0 a1 l0 l1)) ∧ w = w' := by
  obtain ⟨c0, c1, c2, c3, c4, _⟩ := tab_facts h
  clear h
  have hz0 := Lib.hid hk0
  have hz1 := Lib.hid hk1
  have hh0 := Lib.hid h0
  have hh1 := Lib.hid h1
  have hF : Hid (∃ F, F = fndT key H a0 a1 l0 l1) := Lib.hid ⟨_, rfl⟩
  have hsel : ∀ i : Nat, i < 2 → ∃ (a : Option Addr) (l : List (List En)) (k : Nat), (∀ w, Sem.run Tryd.prog (Instr.index 58 (.agg #[.slice a0 l0.length l0.length, .slice a1 l1.length l1.length]) (.int .i64 (i : Int))) w = .ok (.slice a l.length l.length) w) ∧ HalfAt w a l ∧ SzOk l.length k ∧
      ((i = 1 → fndH key H a0 l0 = none) → ∀ p, fndH key H a l = some p → fndT key H a0 a1 l0 l1 = some p) ∧ ((i = 1 → fndH key H a0 l0 = none) → fndH key H a l = none → (i + 1 = 1 → fndH key H a0 l0 = none) ∧ (i + 1 = 2 → fndT key H a0 a1 l0 l1 = none)) := by
    intro i hi
    rcases i with _ | _ | i
    · exact ⟨a0, l0, k0, fun w => run_half _ _ 0 (by omega) w, h0, hk0, fun _ p hp => by simp [fndT, hp], fun _ hn => ⟨fun _ => hn, by omega⟩⟩
    · exact ⟨a1, l1, k1, fun w => run_half _ _ 1 (by omega) w, h1, hk1, fun hn p hp => by simp [fndT, hn rfl, hp], fun hn hp => ⟨by omega, fun _ => by simp [fndT, hn rfl, hp]⟩⟩
    · omega
  have hselH := Lib.hid hsel
  clear hk0 hk1 h0 h1 hsel hz0 hz1 hh0 hh1 hF
  generalize fndT key H a0 a1 l0 l1 = F at *
  generalize hG : fndH key H a0 l0 = G at *
  clear hG
  go_enter Tryd.func43, Tryd.ntmps43
  go_wp2
  go_loop [8, 9, 14] (fun s h i => ∃ j : Nat, j ≤ 2 ∧ i = .int .i64 j ∧ Hid ((j = 1 → G = none) ∧ (j = 2 → F = none))) (fun _ _ i => 2 - (intOf i).toNat)
  case atStart => exact ⟨0, by omega, rfl, Lib.hid ⟨by omega, by omega⟩⟩
  case round =>
    obtain ⟨j, hj, rfl, hp⟩ := hrel
    by_cases hlt : j < 2
    · obtain ⟨a, l, k, hrun, hhalf, hk, hyes, hno⟩ := hselH.out j hlt
      have hle := hk.le
      have hy := Lib.hid (hyes hp.out.1)
      have hn := Lib.hid (hno hp.out.1)
      have hrunw := hrun w
      clear hyes hno hrun
      rcases hhalf with ⟨rfl, rfl⟩ | ⟨b, rfl, hpos, hpl, hch⟩
      · simp only [List.length_nil] at *
        go_wp2
        go_round
        case rel => exact ⟨j + 1, by omega, by go_num, Lib.hid (hn.out rfl)⟩
        case measure => simp [intOf]; omega
      · have hM := Nat.mod_lt H hpos
        obtain ⟨c, hc⟩ : ∃ c, l[H % l.length]? = some c := ⟨_, List.getElem?_eq_getElem hM⟩
        have hcc := Lib.hid (hch c (List.mem_of_getElem? hc))
        have hcell := (pl_cell hpl hc).1
        have hpc := Lib.hid (fun w => hplace_any b l.length k hk hpos H hH w)
        have hfn : fndH key H (some ⟨b, 0, none⟩) l = fnd key ⟨b, H % l.length, none⟩ c := by simp [fndH, hc]
        rw [hfn] at hy hn
        clear hch hpl hc hfn hk
        generalize H % l.length = M at *
        generalize l.length = n at *
        go_wp2_with (go_at_call 61; ((with_reducible refine (hpc.out _).mono ?_); rintro e w' ⟨rfl, rfl⟩))
        go_loopg [9] c.length (fun k s9 wr => wr = w ∧ ∃ (p : Addr) (L : List En), k = L.length ∧ s9 = .pointer (some p) ∧ w.cell? p = some (.pointer (hd L)) ∧ Hid (ChainAt w L) ∧ Hid (fnd key ⟨b, M, none⟩ c = fnd key p L))
        case atStart => exact ⟨rfl, _, c, rfl, rfl, hcell, hcc, Lib.hid rfl⟩
        case round =>
          obtain ⟨rfl, p, L, rfl, rfl, hcl, hL, hfe⟩ := hrel
          cases L with
          | nil =>
            simp only [hd] at hcl
            go_wp2
            go_round
            case rel => exact ⟨j + 1, by omega, by go_num, Lib.hid (hn.out (by rw [hfe.out]; rfl))⟩
            case measure => simp [intOf]; omega
          | cons e L =>
            simp only [hd] at hcl
            obtain ⟨e0, e1, e2, _⟩ := entry_facts hL.out.head
            cases hkt : (e.2.1.toList == key.toList) with
            | true =>
              go_wp2
              go_ret
              exact ⟨by rw [hy.out p (by rw [hfe.out]; simp [fnd, bytes_eq hkt])]; rfl, rfl⟩
            | false =>
              go_wp2
              go_roundg L.length
              case measure => simp
              case rel => exact ⟨rfl, _, L, rfl, rfl, e2, Lib.hid hL.out.tail, Lib.hid (by rw [hfe.out]; simp [fnd, bytes_ne hkt])⟩
    · go_wp2
      go_ret
      exact ⟨by rw [hp.out.2 (by omega)]; rfl, rfl⟩
end Go.Proofs.YtdldgiicblmknaaDoor
