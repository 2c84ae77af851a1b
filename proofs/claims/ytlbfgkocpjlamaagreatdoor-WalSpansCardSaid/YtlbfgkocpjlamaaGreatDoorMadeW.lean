/-
  The walk over made: the file of a name, a new one if there is none.
-/
import Derived.Test.YtlbfgkocpjlamaaGreatDoorDA
import Derived.Deep.RegionWith
import Derived.StillTailTactics
namespace Go.Proofs.YtlbfgkocpjlamaaGreatDoor
open Go.RowKit

set_option maxHeartbeats 400000 in
theorem made_old (w : World) (S : Nat → Prop) (db : Nat) (D : Dsk) (mv : Value) (loc : List UInt8 → Nat) (dat : List UInt8 → Value) (h : DkAt w S db D mv loc dat) (s : List UInt8) (hs : s.length ≤ maxLen) (f : Fl) (hn : look s D.files = some f) :
    Calls Tryz.prog 43 #[.pointer (some ⟨db, 0, none⟩), .string ⟨s.toArray⟩] w fun e w' => e = .returned (.pointer (some ⟨loc s, 0, none⟩)) ∧ w = w' := by
  have c3 := h.c3
  have HN := Lib.hid hn
  clear hn
  go_enter Tryz.func43, Tryz.ntmps43
  go_wp2_with (at_lookup; refine wpList_look_some rfl _ _ rfl h.map s hs HN.out rfl rfl ?_)
  go_ret
  exact ⟨rfl, rfl⟩

set_option maxRecDepth 100000 in
set_option maxHeartbeats 1000000 in
theorem made_new (w : World) (S : Nat → Prop) (db : Nat) (D : Dsk) (h : Dk w S db D) (s : List UInt8) (hs : s.length ≤ 64) (hn : look s D.files = none) (hcnt : D.files.length < 4611686018427387904) :
    Calls Tryz.prog 43 #[.pointer (some ⟨db, 0, none⟩), .string ⟨s.toArray⟩] w fun e w' => ∃ mv loc dat, e = .returned (.pointer (some ⟨loc s, 0, none⟩)) ∧ DkAt w' (More S w.heap.size) db { D with files := put ⟨s, [], 0⟩ D.files } mv loc dat ∧ Fr S w w' := by
  obtain ⟨mv, loc, dat, h⟩ := h
  have hmm := @run_makeMap Tryz.prog
  have qT : ∀ (w : World) (r : Option Nat), (binOp .eql 50 (.map r) (.map none)).run Tryz.prog w = .ok (.bool r.isNone) w := fun w r => run_eql_map_nil w _ _ _ r Tryz.underlying50
  have c3 := h.c3
  have z3 := h.fz 3
  have hlt := h.lt
  have HN := Lib.hid hn
  have hsl : s.length ≤ maxLen := by unfold maxLen; omega
  clear hn
  rcases h.map with ⟨e, e2⟩ | ⟨mb, rfl, hmb, ho⟩
  · subst e
    go_enter Tryz.func43, Tryz.ntmps43
    go_wp2_with (at_lookup; refine wpList_look_none rfl _ _ rfl h.map s hsl HN.out rfl rfl ?_)
    obtain ⟨W, hW⟩ : ∃ W, W = w.setCell ⟨db, 3, none⟩ (.map (some w.heap.size)) := ⟨_, rfl⟩
    have hWs : W.heap.size = w.heap.size := by rw [hW]; simp
    have hWb : W.heap[db]? = some (.cells #[.int .i64 (D.size : Int), .int .i64 (used D.files : Int), .int .i64 (D.born : Int), .map (some w.heap.size)] 52 (0, 0)) := by rw [hW]; exact setCell_same h.blk _
    have hWf : Fr (DBlk db (.map none)) w W := by rw [hW]; exact Fr.setCell _ w (.inl rfl) _
    have c3a : ((W.alloc (.map #[] 0)).alloc (.cells #[.slice none 0 0, .int .i64 0] 70)).cell? ⟨db, 3, none⟩ = some (.map (some w.heap.size)) :=
      (World.cell?_of_block (alloc_old (by show db < _; simp; omega) _)).trans ((World.cell?_of_block (alloc_old (by show db < _; omega) _)).trans (cell_of hWb rfl))
    have HO : Hid (((W.alloc (.map #[] 0)).alloc (.cells #[.slice none 0 0, .int .i64 0] 70)).ownsMap Tryz.prog 9 ptrElem w.heap.size 0 (dm loc D.files)) := Lib.hid (by
      rw [e2, ← hWs]
      exact (World.ownsMap_made W Tryz.prog 9 ptrElem).alloc _)
    have hn9 : 0 < maxLen := by unfold maxLen; omega
    rw [← hW]
    have HW := Lib.hid hW
    have HWs := Lib.hid hWs
    clear hW hWs
    go_region_with (first
      | (go_at_call 22; refine (sclone_any s _ (by omega)).mono ?_; rintro e w1 ⟨rfl, hb⟩; have c3b := (below_cells hb db 3 (by have := HWs.out; simp; omega)).trans c3a; have HB := Lib.hid hb; obtain ⟨w2, hrun, hown2, hturn2⟩ := (own_block HO.out (hb.block w.heap.size (by have := HWs.out; simp; omega))).store law Tryz.underlying50 hn9 (key_of s hsl) (ptrElem_some (w.heap.size + 1))))
    all_goals
      go_wp2
      go_ret
      have hf1 : Fr (DBlk db (.map none)) w w1 := (((hWf.alloc (.map #[] 0)).alloc (.cells #[.slice none 0 0, .int .i64 0] 70)).drew).then (Fr.of_new HB.out _)
      have hws := HWs.out
      have hf2 : Fr (DBlk db (.map none)) w w2 := ⟨hturn2.grown.os.trans hf1.os, hturn2.grown.tape.trans hf1.tape, hturn2.grown.output.trans hf1.output, Nat.le_trans hf1.size hturn2.grown.size, fun k hk hn => (hturn2.grown.block k (Nat.lt_of_lt_of_le hk hf1.size) (by simp; omega)).trans (hf1.block k hk hn)⟩
      have e1 : ∀ k, k < w.heap.size → w2.heap[k]? = W.heap[k]? := fun k hk => (hturn2.grown.block k (Nat.lt_of_lt_of_le hk hf1.size) (by simp; omega)).trans ((HB.out.block k (by simp; omega)).trans ((alloc_old (by simp; omega) _).trans (alloc_old (by omega) _)))
      have e3 : w2.heap[w.heap.size + 1]? = some (.cells #[.slice none 0 0, .int .i64 0] 70 (0, 0)) :=
        (hturn2.grown.block (w.heap.size + 1) (Nat.lt_of_lt_of_le (by simp; omega) HB.out.size) (by simp)).trans ((HB.out.block _ (by simp; omega)).trans (by
          have := heap_alloc_new (W.alloc (.map #[] 0)) (.cells #[.slice none 0 0, .int .i64 0] 70)
          rw [show (W.alloc (.map #[] 0)).heap.size = w.heap.size + 1 from by simp; omega] at this
          exact this))
      exact ⟨_, _, _, by rw [upd_same]; rfl, h.fresh HN.out hs hf2 ((e1 db hlt).trans hWb) e3 (by omega) hown2 (.inr (Nat.le_refl _)), hf2.mono fun k _ hk => h.dblk k hk⟩
  · go_enter Tryz.func43, Tryz.ntmps43
    go_wp2_with (at_lookup; refine wpList_look_none rfl _ _ rfl h.map s hsl HN.out rfl rfl ?_)
    have c3a : (w.alloc (.cells #[.slice none 0 0, .int .i64 0] 70)).cell? ⟨db, 3, none⟩ = some (.map (some mb)) := (World.cell?_of_block (alloc_old hlt _)).trans c3
    have HO := Lib.hid (ho.alloc (.cells #[.slice none 0 0, .int .i64 0] 70))
    have hlo := ho.lt
    have hn9 : D.files.length < maxLen := by unfold maxLen; omega
    go_region_with (first
      | (go_at_call 22; refine (sclone_any s _ (by omega)).mono ?_; rintro e w1 ⟨rfl, hb⟩; have c3b := (below_cells hb db 3 (by simp; omega)).trans c3a; have HB := Lib.hid hb; obtain ⟨w2, hrun, hown2, hturn2⟩ := (own_block HO.out (hb.block mb (by simp; omega))).store law Tryz.underlying50 hn9 (key_of s hsl) (ptrElem_some w.heap.size)))
    all_goals
      go_wp2
      go_ret
      have hf1 : Fr (DBlk db (.map (some mb))) w w1 := (((Fr.refl (DBlk db (.map (some mb))) w).alloc (.cells #[.slice none 0 0, .int .i64 0] 70)).drew).then (Fr.of_new HB.out _)
      have hf2 := hf1.then (Fr.grown hturn2.grown (S := DBlk db (.map (some mb))) (fun k e => .inr (by rw [Option.some.inj e])))
      have hmd : db ≠ mb := fun e => own_kind ho h.blk e.symm
      have e1 : ∀ k, k < w.heap.size → k ≠ mb → w2.heap[k]? = w.heap[k]? := fun k hk hne => (hturn2.grown.block k (Nat.lt_of_lt_of_le hk hf1.size) (by simpa using hne)).trans ((HB.out.block k (by simp; omega)).trans (alloc_old hk _))
      have e2 : w2.heap[w.heap.size]? = some (.cells #[.slice none 0 0, .int .i64 0] 70 (0, 0)) :=
        (hturn2.grown.block w.heap.size (Nat.lt_of_lt_of_le (by simp) HB.out.size) (by simp; omega)).trans ((HB.out.block _ (by simp)).trans (heap_alloc_new w _))
      exact ⟨_, _, _, by rw [upd_same]; rfl, h.fresh HN.out hs hf2 ((e1 db hlt hmd).trans h.blk) e2 (Nat.le_refl _) hown2 (.inl hmb), hf2.mono fun k _ hk => h.dblk k hk⟩
theorem made_any (w : World) (S : Nat → Prop) (db : Nat) (D : Dsk) (h : Dk w S db D) (s : List UInt8) (hs : s.length ≤ 64) (hcnt : D.files.length < 4611686018427387904) :
    Calls Tryz.prog 43 #[.pointer (some ⟨db, 0, none⟩), .string ⟨s.toArray⟩] w fun e w' => ∃ mv loc dat, e = .returned (.pointer (some ⟨loc s, 0, none⟩)) ∧ DkAt w' (More S w.heap.size) db (made D s) mv loc dat ∧ Fr S w w' := by
  rcases e : look s D.files with _ | f
  · have e1 : made D s = { D with files := put ⟨s, [], 0⟩ D.files } := by simp [made, e]
    rw [e1]
    exact made_new w S db D h s hs e hcnt
  · have e1 : made D s = D := by simp [made, e]
    rw [e1]
    obtain ⟨mv, loc, dat, hd⟩ := h
    refine (made_old w S db D mv loc dat hd s (by unfold maxLen; omega) f e).mono ?_
    rintro e w' ⟨rfl, rfl⟩
    exact ⟨mv, loc, dat, rfl, hd.step (Fr.refl (fun _ => False) w) (fun _ _ _ hf => hf) (fun _ _ hs => .inl hs), Fr.refl _ _⟩
end Go.Proofs.YtlbfgkocpjlamaaGreatDoor
