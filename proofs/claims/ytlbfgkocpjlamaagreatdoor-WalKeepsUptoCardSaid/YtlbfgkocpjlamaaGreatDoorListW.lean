/-
  The walk over List without prefixes: the names of all files, rising.
-/
import Derived.Test.YtlbfgkocpjlamaaGreatDoorSynW
import Derived.Sort.OwnSorted
namespace Go.Proofs.YtlbfgkocpjlamaaGreatDoor
open Go.RowKit Go.Maps Go.Sort

theorem infoStr : (Tryz.prog.info? 9).map (fun i => (i.zero, i.size, i.bytes)) = some (some (.string ⟨#[]⟩), 1, 16) := by kernel_rfl
def namesOf (l : List Fl) : List (List UInt8) := l.map (·.name)
/-- A row of texts of the call's own. -/
def OwnS (w : World) (base : Nat) (v : Value) (ss : List (List UInt8)) : Prop := w.ownsRow base 9 1 v ss.length (ss.map encStr)
theorem OwnS.rdv {w : World} {base : Nat} {v : Value} {ss : List (List UInt8)} (h : OwnS w base v ss) (hl : ss.length ≤ 140737488355328) {S : Nat → Prop} (hS : ∀ k, base ≤ k → k < w.heap.size → ¬ S k) : RdV w S v (ss.map encStr) := by
  rcases h.2 with ⟨rfl, h0⟩ | ⟨g, cap, cur, rfl, hb, hg, h1, h2, h3, h4⟩
  · have : ss = [] := List.eq_nil_of_length_eq_zero h0
    subst this
    exact RdV.nil _ _
  · refine ⟨_, cap, by rw [List.length_map], by rw [List.length_map]; exact h1, by rw [List.length_map]; exact hl, by unfold maxLen at h2; exact h2, (fun e => by cases e), fun k x hx => ⟨g, 0, rfl, block_lt hg, hS g hb (block_lt hg), ?_⟩⟩
    have hk : k < ss.length := by
      have := (List.getElem?_eq_some_iff.1 hx).1
      simpa using this
    rw [Nat.zero_add]
    have h5 : cur.toList[k]? = some x := by
      rw [← hx, ← h4, List.getElem?_take_of_lt (by omega)]
    exact cell_of hg (by rw [← Array.getElem?_toList]; exact h5)

theorem OwnS.shape {w : World} {base : Nat} {v : Value} {ss : List (List UInt8)} (h : OwnS w base v ss) : ∃ p cap, v = .slice p ss.length cap ∧ ss.length ≤ cap ∧ cap ≤ 9223372036854775807 := by
  rcases h.2 with ⟨rfl, h0⟩ | ⟨g, cap, cur, rfl, _, _, h1, h2, _⟩
  · exact ⟨none, 0, by rw [h0], by omega, by omega⟩
  · exact ⟨_, cap, rfl, h1, by unfold maxLen at h2; exact h2⟩
set_option maxRecDepth 100000 in
set_option maxHeartbeats 1000000 in
theorem list_some (w : World) (S : Nat → Prop) (db : Nat) (D : Dsk) (mb : Nat) (loc : List UInt8 → Nat) (dat : List UInt8 → Value) (h : DkAt w S db D (.map (some mb)) loc dat) (cap0 : Nat) (pp : Option Addr) (hcnt : D.files.length ≤ 1099511627776) :
    Calls Tryz.prog 30 #[.pointer (some ⟨db, 0, none⟩), .slice pp 0 cap0] w fun e w' => ∃ v, e = .returned v ∧ OwnS w' w.heap.size v (namesOf D.files) ∧ Below w.heap.size w w' := by
  obtain ⟨i0, hi, hz0, hz1, hz2⟩ := info_parts infoStr
  have c3 := h.c3
  have ho : w.ownsMap Tryz.prog 9 ptrElem mb D.files.length (dm loc D.files) := by
    rcases h.map with ⟨e, _⟩ | ⟨mb', e, _, ho⟩
    · cases e
    · obtain rfl : mb = mb' := by simpa using e
      exact ho
  have hbl := ho.lt
  have HH := Lib.hid h
  have hsz : Maps.size (dm loc D.files) = D.files.length := dm_size loc D.files
  have HSZ := Lib.hid hsz
  clear h hsz
  go_enter Tryz.func30, Tryz.ntmps30
  go_wp2_with (at_range; refine wpList_range_own _ rfl _ 50 rfl 9 66 law Tryz.underlying50 ptrElem mb D.files.length (dm loc D.files) rfl ho ?_; intro w0 hrg0 hg0 hs0)
  go_frame
  have HS0 := Lib.hid hs0
  clear hs0
  go_loopw [5, 6] (fun v _ wr => ∃ (left : Lit → Bool) (cnt : Nat) (ss : List (List UInt8)), wr.ranges Tryz.prog 9 ptrElem mb w.heap.size D.files.length (dm loc D.files) left cnt ∧ ss.length + cnt ≤ D.files.length ∧
      OwnS wr w.heap.size v ss ∧ Collected (dm loc D.files) left ss ∧ Below w.heap.size w wr) (fun _ _ wr => wr.rangeLeft mb w.heap.size)
  case atStart =>
    exact ⟨_, _, [], hrg0, by rw [HSZ.out]; simp, ⟨rfl, .inl ⟨rfl, rfl⟩⟩, Collected.start _, (Below.refl _ _).grown hg0 (Nat.le_refl _) (fun j hj => by cases hj)⟩
  case round =>
    obtain ⟨left, cnt, ss, hrg, hcs, hrow, hC, hnx⟩ := hrel
    go_wp2_with (at_next; refine wpList_next_ranges _ rfl _ rfl 9 law ptrElem encStr ptrTo (fun key kl hk => by obtain ⟨x, hx, _⟩ := Maps.keyOf_str Tryz.underlying9 hk; exact ⟨x, hx⟩) (fun v y hv => ptrElem_shape hv) mb w.heap.size D.files.length _ _ _ rfl hrg ?_ ?_)
    · intro hc0 hl0
      have hperm := hC.perm hrg.owns law Tryz.underlying9 hl0
      have hmerge : (ss.mergeSort fun x y => decide (x ≤ y)) = namesOf D.files := by
        have := mergeSort_of_perm hperm
        rw [dm_keys, sorted_names HH.out.srt] at this
        exact this
      have hlen : ss.length = (namesOf D.files).length := by rw [← hmerge]; simp
      have HM := Lib.hid hmerge
      have HL := Lib.hid hlen
      clear hmerge hlen hperm hc0 hl0
      rcases hrow.2 with ⟨rfl, h0⟩ | ⟨g, cap, cur, rfl, hbase, hb, h1, h2, h3, h4⟩
      · have hs0 : ss = [] := List.eq_nil_of_length_eq_zero h0
        subst hs0
        go_wp2_with (go_at_call 51; refine (Tryz.slices_Sort_string_none none 0 wr).mono ?_; rintro e w' ⟨rfl, rfl⟩)
        go_ret
        refine ⟨_, rfl, ?_, hnx⟩
        have e : namesOf D.files = [] := by rw [← HM.out]; simp
        rw [e]
        exact ⟨rfl, .inl ⟨rfl, rfl⟩⟩
      · have hH : Holds encStr wr g 0 ss.toArray := holds_of_block hb (by simpa using h4)
        have hgl : g < wr.heap.size := (Array.getElem?_eq_some_iff.1 hb).1
        have hc := Tryz.slices_Sort_string g 0 cap ss wr hH hgl (by omega)
        have HC := Lib.hid hc
        clear hc h4
        go_wp2_with (go_at_call 51; refine HC.out.mono ?_; rintro e w' ⟨rfl, nn, os, rfl⟩)
        go_ret
        refine ⟨_, rfl, ?_, hnx.grown (grownBy_sorted _) hnx.size (fun j hj => by cases hj; exact hbase)⟩
        have := ownsRow_sorted (n := nn) (os := os) (ts := ss.mergeSort fun x y => decide (x ≤ y)) (by simp) hbase hb h1 h2 h3
        unfold OwnS
        rw [← HM.out, List.length_mergeSort]
        exact this
    · intro x c kl yd yp w2 cnt2 hkey hlk hv hat hrg2 hlt hg2 hs2 hen
      obtain ⟨x', ex, rfl, _⟩ := Maps.keyOf_str Tryz.underlying9 hkey
      obtain rfl : x = x' := encStr_inj ex
      have hrow2 := World.ownsRow.kept hrow hg2 (Or.inr (row_ne_iter hrow hrg).symm)
      clear hs2
      go_wp2_with (at_builtin; refine wpList_append_own _ rfl _ _ 64 rfl w.heap.size 9 i0 (.string ⟨#[]⟩) 1 16 Tryz.underlying64 hi hz0 hz1 hz2 rfl (by decide) _ _ _ rfl (hrow2.alloc _) ⟨w2.heap.size, 0, none⟩ 1 1 [encStr x] rfl rfl (cell_one_new _ _ _) (by simp [Value.oneCell', encStr]) (by unfold maxLen at *; omega) (by omega) (by have := hnx.size; have := hg2.size; simp; omega) ?_; intro v' w3 hown' hg3 hnil3; go_frame)
      have hrg3 := (hrg2.alloc _).kept hg3 (row_ne_low hrow2 hbl) (row_ne_iter hrow2 hrg2)
      go_roundw
      case rel =>
        refine ⟨_, cnt2, ss ++ [x], hrg3, by simp; omega, by simpa [OwnS] using hown', hC.step hlk hat, ?_⟩
        exact ((hnx.grown hg2 hnx.size (fun j hj => by cases hj; exact Nat.le_refl _)).alloc (by have := hnx.size; have := hg2.size; omega) _).grown hg3 (by have := hnx.size; have := hg2.size; simp; omega) (fun j hj => (hrow2.lt j hj).1)
      case measure => rw [hrg3.left_eq, hrg.left_eq]; exact hlt

set_option maxRecDepth 100000 in
set_option maxHeartbeats 1000000 in
theorem list_none (w : World) (db : Nat) (c3 : w.cell? ⟨db, 3, none⟩ = some (.map none)) (cap0 : Nat) (pp : Option Addr) :
    Calls Tryz.prog 30 #[.pointer (some ⟨db, 0, none⟩), .slice pp 0 cap0] w fun e w' => e = .returned (.slice none 0 0) ∧ Below w.heap.size w w' := by
  have hrg := run_range_nilMap (P := Tryz.prog) w 50 9 66 Tryz.underlying50
  have hnx : ∀ ty, (Instr.next (.pointer (some ⟨w.heap.size, 0, none⟩)) false ty).run Tryz.prog (w.alloc (.mapIter none 0 #[] 0)) = _ := fun ty => run_next_nilMap w ty 0 0 #[]
  go_enter Tryz.func30, Tryz.ntmps30
  go_wp2
  refine wp_loop_rounds 1 ?_
  rw [rounds_succ]
  go_wp2_with (go_at_call 51; refine (Tryz.slices_Sort_string_none none 0 _).mono ?_; rintro e w' ⟨rfl, rfl⟩)
  go_ret
  exact ⟨rfl, (Below.refl _ _).alloc (Nat.le_refl _) _⟩

theorem list_any (w : World) (S : Nat → Prop) (db : Nat) (D : Dsk) (h : Dk w S db D) (cap0 : Nat) (pp : Option Addr) (hcnt : D.files.length ≤ 1099511627776) :
    Calls Tryz.prog 30 #[.pointer (some ⟨db, 0, none⟩), .slice pp 0 cap0] w fun e w' => ∃ v, e = .returned v ∧ OwnS w' w.heap.size v (namesOf D.files) ∧ Below w.heap.size w w' := by
  obtain ⟨mv, loc, dat, hd⟩ := h
  rcases hd.map with ⟨rfl, e⟩ | ⟨mb, rfl, _⟩
  · refine (list_none w db hd.c3 cap0 pp).mono ?_
    rintro e' w' ⟨rfl, hb⟩
    rw [e]
    exact ⟨_, rfl, ⟨rfl, .inl ⟨rfl, rfl⟩⟩, hb⟩
  · exact list_some w S db D mb loc dat hd cap0 pp hcnt
end Go.Proofs.YtlbfgkocpjlamaaGreatDoor
