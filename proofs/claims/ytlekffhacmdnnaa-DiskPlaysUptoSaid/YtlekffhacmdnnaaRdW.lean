/-
  The walk over the reference's drop.
-/
import Derived.Test.YtlekffhacmdnnaaRfC
namespace Go.Proofs.Ytlekffhacmdnnaa
open Go.RowKit

set_option maxHeartbeats 400000 in
theorem drop_none (w : World) (S : Nat → Prop) (rb : Nat) (D : Dsk) (h : Rf w S rb D) (s : List UInt8) (hn : look s D.files = none) :
    Calls Try.prog 59 #[.pointer (some ⟨rb, 0, none⟩), .string ⟨s.toArray⟩] w fun e w' => e = .returned (.tuple #[]) ∧ ∃ n, w' = w.drewN n := by
  have HF := find_any w S rb D h s
  rw [hn] at HF
  clear hn
  go_enter Try.func59, Try.ntmps59
  go_wp2_with fail
  refine HF.mono ?_
  rintro e w' ⟨rfl, n, rfl⟩
  go_wp2_with fail
  go_end0
  exact ⟨rfl, n, rfl⟩

set_option maxRecDepth 100000 in
set_option maxHeartbeats 2000000 in
theorem drop_some (w : World) (S : Nat → Prop) (rb : Nat) (D : Dsk) (h : Rf w S rb D) (s : List UInt8) (f : Fl) (hn : look s D.files = some f) (hcnt : D.files.length ≤ 1099511627775) :
    Calls Try.prog 59 #[.pointer (some ⟨rb, 0, none⟩), .string ⟨s.toArray⟩] w fun e w' => e = .returned (.tuple #[]) ∧ Rf w' (More S w.heap.size) rb (del1 D s) ∧ Fr (fun k => k = rb) w w' := by
  have HF := find_any w S rb D h s
  rw [hn] at HF
  obtain ⟨fv, us, h⟩ := h
  have hp := plc_lt h.srt hn
  have HDel := Lib.hid (del_cut h.srt hn)
  obtain ⟨P, hP⟩ : ∃ P, plc s D.files = P := ⟨_, rfl⟩
  rw [hP] at HF hp HDel
  obtain ⟨v1, hs1, hr1⟩ := h.sf.take (k := P) (by omega)
  obtain ⟨v2, hs2, hr2⟩ := h.sf.drop (k := P + 1) (by omega)
  have hr2' : ∀ W, (Instr.slice 55 fv (some (.int .i64 ((P : Int) + 1))) none none).run Try.prog W = .ok v2 W := by
    intro W
    have := hr2 W
    rw [show (((P + 1 : Nat)) : Int) = (P : Int) + 1 by omega] at this
    exact this
  have hwr : IntKind.i64.wrap ((P : Int) + 1) = (P : Int) + 1 := by rw [IntKind.wrap_i64]; omega
  have hr2w : ∀ W, (Instr.slice 55 fv (some (.int .i64 (IntKind.i64.wrap ((P : Int) + 1)))) none none).run Try.prog W = .ok v2 W := by rw [hwr]; exact hr2'
  clear hr2 hwr
  have c1 := h.c1
  have z1 := h.fz 1
  have hlt := h.lt
  have HH := Lib.hid h
  have HS1 := Lib.hid hs1
  have HS2 := Lib.hid hs2
  clear hn hP h hs1 hs2
  go_enter Try.func59, Try.ntmps59
  go_wp2_with fail
  refine HF.mono ?_
  rintro e w' ⟨rfl, n, rfl⟩
  clear HF
  obtain ⟨W1, hW1⟩ : ∃ W1, (w.drewN (n + 1)).alloc (.cells #[] 73) = W1 := ⟨_, rfl⟩
  have hB0 : Below w.heap.size w W1 := by
    rw [← hW1]
    exact Below.alloc (⟨rfl, rfl, rfl, Nat.le_refl _, fun _ _ => rfl⟩ : Below w.heap.size w (w.drewN (n + 1))) (Nat.le_refl _) _
  have hO0 : OwnF W1 w.heap.size (.slice (some ⟨w.heap.size, 0, none⟩) 0 0) [] [] := by
    rw [← hW1]
    exact OwnF.lit (w.drewN (n + 1)) w.heap.size (Nat.le_refl _)
  have c1a : ((w.drewN (n + 1)).alloc (.cells #[] 73)).cell? ⟨rb, 1, none⟩ = some fv := by
    rw [hW1]
    exact (below_cells hB0 rb 1 hlt).trans c1
  have HO0 : Hid (OwnF ((w.drewN (n + 1)).alloc (.cells #[] 73)) w.heap.size (.slice (some ⟨w.heap.size, 0, none⟩) 0 0) [] []) := Lib.hid (by rw [hW1]; exact hO0)
  have HS1a : Hid (Sf ((w.drewN (n + 1)).alloc (.cells #[] 73)) v1 (D.files.take P) (us.take P)) := Lib.hid (by rw [hW1]; exact HS1.out.keep hB0)
  have HB0 : Hid (Below w.heap.size w ((w.drewN (n + 1)).alloc (.cells #[] 73))) := Lib.hid (by rw [hW1]; exact hB0)
  have one1 : Hid (∀ u ∈ us.take P, u.oneCell' = true) := Lib.hid fun u hu => HH.out.ones u (List.mem_of_mem_take hu)
  have one2 : Hid (∀ u ∈ us.drop (P + 1), u.oneCell' = true) := Lib.hid fun u hu => HH.out.ones u (List.mem_of_mem_drop hu)
  have len1 : Hid (([] : List Fl).length + (D.files.take P).length ≤ 1099511627776) := Lib.hid (by simp; omega)
  have len2 : Hid (([] ++ D.files.take P).length + (D.files.drop (P + 1)).length ≤ 1099511627776) := Lib.hid (by simp; omega)
  clear hW1 hB0 hO0
  go_wp2_with fail
  go_region_law (first
    | (refine step_append_F rfl (.tmp 14) (.tmp 20) rfl w.heap.size (v := .slice (some ⟨w.heap.size, 0, none⟩) 0 0) (u := v1) (by simp [Act.eval, Act.put]) (by simp [Act.eval, Act.put]) HO0.out HS1a.out one1.out len1.out HB0.out.size ?_; intro y1 w1 ho1 hg1 ha1; have hb1 : Below w.heap.size w w1 := HB0.out.grown (by exact hg1) HB0.out.size (fun j hj => by cases hj; exact Nat.le_refl _); have c1b := (below_cells hb1 rb 1 hlt).trans c1; have z1b : w1.frozen? ⟨rb, 1, none⟩ = false := (hb1.frozen (p := ⟨rb, 1, none⟩) hlt).trans z1; have HO1 := Lib.hid ho1; have HB1 := Lib.hid hb1; clear ho1 hg1 ha1 hb1)
    | (refine step_append_F rfl (.tmp 21) (.tmp 28) rfl w.heap.size (v := y1) (u := v2) (by simp [Act.eval, Act.put]) (by simp [Act.eval, Act.put]) HO1.out (HS2.out.keep HB1.out) one2.out len2.out HB1.out.size ?_; intro y2 w2 ho2 hg2 ha2; have hb2 : Below w.heap.size w w2 := HB1.out.grown (by exact hg2) HB1.out.size HO1.out.low; have c1c := (below_cells hb2 rb 1 hlt).trans c1; have z1c : w2.frozen? ⟨rb, 1, none⟩ = false := (hb2.frozen (p := ⟨rb, 1, none⟩) hlt).trans z1; have HO2 := Lib.hid ho2; obtain ⟨n3, p3, cap3, rfl⟩ := ho2.shape; have HB2 := Lib.hid hb2; clear ho2 hg2 ha2 hb2))
  all_goals
    go_wp2
    go_end0
    have ho2 := HO2.out
    rw [List.nil_append, List.nil_append, ← HDel.out] at ho2
    have hD := HH.out
    obtain ⟨h1, h2⟩ := hD.lay HB2.out ho2 (fun k f u h1 h2 => by
      rw [HDel.out] at h1
      obtain ⟨m, h3, h4⟩ := pair_cut hD.len (by omega) (by omega) h1 h2
      exact hD.old_new HB2.out h3 h4) (fun g hg => hD.le g (mem_del.1 hg).1) (hD.srt.del s) (fun g hg => hD.names g (mem_del.1 hg).1) (by have := used_del hD.srt s; have := hD.room; omega)
    exact ⟨rfl, h1, h2⟩
end Go.Proofs.Ytlekffhacmdnnaa
