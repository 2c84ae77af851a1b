/-
  One net alone: its blocks lie from n on and ahead of m; the walk over known: the chapter's example.
-/
import Derived.Test.YtiffoafjgcjgoaaNtI
import Derived.Lib.SlBytesConst
namespace Go.Proofs.Ytiffoafjgcjgoaa
open Go.RowKit

def Iv (n m : Nat) : Nat → Prop := fun k => n ≤ k ∧ k < m
section
variable {w w' : World} {n m b nb : Nat} {N : PNet}
theorem Nt.iv {S : Nat → Prop} (h : Nt w' (More S b) nb N) (hS : ∀ k, S k → n ≤ k) (hb : n ≤ b) : Nt w' (Iv n w'.heap.size) nb N :=
  h.mono fun k hk hm => ⟨hm.elim (hS k) (fun hle => Nat.le_trans hb hle), hk⟩
theorem Nt.iv0 {S : Nat → Prop} (h : Nt w' S nb N) (hS : ∀ k, S k → n ≤ k) : Nt w' (Iv n w'.heap.size) nb N := h.mono fun k hk hm => ⟨hS k hm, hk⟩
theorem Fr.iv {S : Nat → Prop} (h : Fr S w w') (hn : n ≤ w.heap.size) (hS : ∀ k, S k → n ≤ k) : Below n w w' := h.below hn fun k hk hs => by
  have := hS k hs
  omega
theorem Iv.low (n m : Nat) : ∀ k, Iv n m k → n ≤ k := fun _ h => h.1
theorem Iv.new (n m : Nat) : ∀ k, m ≤ k → ¬ Iv n m k := fun k h hk => by
  have := hk.2
  omega
end
section
variable {w w' : World} {S : Nat → Prop}
/-- A new block of one-cell values. -/
theorem RdV.new (w : World) (S : Nat → Prop) (xs : List Value) (t : TypeId) (fz : Nat × Nat) (hl : xs.length ≤ 140737488355328) (hS : ¬ S w.heap.size) :
    RdV (w.alloc (.cells xs.toArray t fz)) S (.slice (some ⟨w.heap.size, 0, none⟩) xs.length xs.length) xs :=
  ⟨_, _, rfl, Nat.le_refl _, hl, by omega, (fun e => by cases e), fun k x hx => ⟨w.heap.size, 0, rfl, by simp, hS, by
    rw [Nat.zero_add]
    exact cell_of (heap_alloc_new w _) (by simpa using hx)⟩⟩
end
theorem Own1.shape {w : World} {base : Nat} {v : Value} {l : List UInt8} (h : Own1 w base v l) : ∃ p cap, v = .slice p l.length cap ∧ l.length ≤ cap ∧ cap ≤ 9223372036854775807 := by
  rcases h with ⟨rfl, rfl⟩ | ⟨g, cap, cur, fz, rfl, hb, hg, h1, h2, _⟩
  · exact ⟨none, 0, rfl, Nat.le_refl _, by omega⟩
  · exact ⟨_, cap, rfl, h1, h2⟩

def kn0 : PNet := ⟨3, 2, 0, []⟩
def kn1 : PNet := sends 0 [120] kn0 [1, 2, 1, 1]
def kn2 : PNet := take1 kn1 0 1 5
def kn3 : PNet := dbl kn2 0 1 0
def kn4 : PNet := dbl kn3 0 1 0

set_option maxRecDepth 100000 in
set_option maxHeartbeats 2000000 in
theorem known_any (w : World) : Calls Try.prog 6 #[] w fun e w' => e = .returned (.bool true) ∧ Below w.heap.size w w' := by
  have kc := fun (w : World) (C : Array Value) (n c : Nat) => Lib.run_convert_bytes_const (P := Try.prog) w 34 5 C n c Try.underlying34 Try.underlying5
  go_enter Try.func6, Try.ntmps6
  go_wp2_with fail
  refine (new_any w 3 2 (by omega) (by omega) (by omega) (by omega)).mono ?_
  rintro e w1 ⟨nb, rfl, hnb, hn1, hb1⟩
  have hz1 := hb1.size
  have HN1 := Lib.hid (hn1.iv0 (n := w.heap.size) (fun _ h => h))
  have HB1 := Lib.hid hb1
  clear hn1 hb1
  go_wp2_with fail
  obtain ⟨X, hX⟩ : ∃ X, (w1.alloc (.cells #[.int .u8 120] 5 (1, 2))).alloc (.cells #[.int .i64 1, .int .i64 2, .int .i64 1, .int .i64 1] 3) = X := ⟨_, rfl⟩
  have hbX : Below w1.heap.size w1 X := by rw [← hX]; exact ((Below.refl _ _).alloc (Nat.le_refl _) _).alloc (by simp) _
  have hRd : Rd X X.heap.size (.slice (some ⟨w1.heap.size, 0, none⟩) 1 1) [120] := by
    have h1 := Rd.newm w1 [120] 5 #[.int .u8 120] (1, 2) (by simp [bs, bv]) (by simp)
    rw [← hX]
    exact (h1.under ((Below.refl _ (w1.alloc (.cells #[.int .u8 120] 5 (1, 2)))).alloc (Nat.le_refl _) _) (by simp)).more (by simp)
  have hTs : RdV X (Iv w.heap.size w1.heap.size) (.slice (some ⟨w1.heap.size + 1, 0, none⟩) 4 4) ([1, 2, 1, 1].map (Value.int .i64)) := by
    have h1 := RdV.new (w1.alloc (.cells #[.int .u8 120] 5 (1, 2))) (Iv w.heap.size w1.heap.size) ([1, 2, 1, 1].map (Value.int .i64)) 3 (0, 0) (by simp) (Iv.new _ _ _ (by simp))
    rw [← hX]
    simpa using h1
  have HS := Lib.hid (send_any X _ nb kn0 (HN1.out.after hbX) 0 _ [120] hRd (by simp) _ [1, 2, 1, 1] hTs)
  have HBX := Lib.hid (HB1.out.trans (hbX.mono hz1))
  have HXs := Lib.hid hbX.size
  clear hbX hRd hTs
  rw [hX]
  refine HS.out.mono ?_
  rintro e w2 ⟨rfl, hn2, hf2⟩
  have hzX := Nat.le_trans hz1 HXs.out
  have HN2 : Hid (Nt w2 (Iv w.heap.size w2.heap.size) nb kn1) := Lib.hid (hn2.iv (Iv.low _ _) hzX)
  have hb2 := HBX.out.trans (hf2.iv hzX (Iv.low _ _))
  have hz2 := hb2.size
  have HB2 := Lib.hid hb2
  have HD := Lib.hid (deliver_any w2 _ nb kn1 HN2.out 0 1 5 (by omega))
  clear hn2 hf2 hb2
  go_wp2_with fail
  refine HD.out.mono ?_
  rintro e w3 ⟨v3, rfl, ho3, hn3, hf3⟩
  have hb3 := HB2.out.trans (hf3.iv hz2 (Iv.low _ _))
  have hz3 := hb3.size
  have HN3 : Hid (Nt w3 (Iv w.heap.size w3.heap.size) nb kn2) := Lib.hid (hn3.iv0 (Iv.low _ _))
  have HB3 := Lib.hid hb3
  have e3 : dX kn1 0 1 5 = [120] := by decide
  have e4 : dF kn1 0 1 = 0 := by decide
  have e5 : dT kn1 0 1 = 1 := by decide
  have e6 : has kn1 0 1 = true := by decide
  have e7 : nsent 0 [120] kn0 [1, 2, 1, 1] = 3 := by decide
  rw [e3] at ho3
  obtain ⟨p3, c3, rfl, _, _⟩ := ho3.shape
  rw [e4, e5, e6, e7]
  obtain ⟨Y, hY⟩ : ∃ Y, w3.alloc (.cells #[.int .i64 0, .int .i64 1, .slice p3 1 c3] 41) = Y := ⟨_, rfl⟩
  have hbY : Below w3.heap.size w3 Y := by rw [← hY]; exact (Below.refl _ _).alloc (Nat.le_refl _) _
  have hstr : (convert 34 9 (.slice p3 1 c3)).run Try.prog Y = .ok (.string ⟨#[120]⟩) Y := str_run ((ho3.rd (by simp)).below hbY)
  have dY : Y.cell? ⟨w3.heap.size, 2, none⟩ = some (.slice p3 1 c3) := by rw [← hY]; exact cell_of (heap_alloc_new w3 _) rfl
  have HBY := Lib.hid (HB3.out.trans (hbY.mono hz3))
  have HW := Lib.hid (double_any Y _ nb kn2 (HN3.out.after hbY) 0 1 0 (by omega))
  have HYs := Lib.hid hbY.size
  clear hn3 hf3 hb3 ho3 hbY e3 e4 e5 e6 e7
  go_wp2_with fail
  refine HW.out.mono ?_
  rintro e w4 ⟨rfl, hn4, hf4⟩
  have hzY := Nat.le_trans hz3 HYs.out
  have HN4 : Hid (Nt w4 (Iv w.heap.size w4.heap.size) nb kn3) := Lib.hid (hn4.iv (Iv.low _ _) hzY)
  have hb4 := HBY.out.trans (hf4.iv hzY (Iv.low _ _))
  have hz4 := hb4.size
  have HB4 := Lib.hid hb4
  have e6 : dbld kn2 0 1 = true := by decide
  rw [e6]
  have HV := Lib.hid (double_any w4 _ nb kn3 HN4.out 0 1 0 (by omega))
  clear hn4 hf4 hb4 e6
  go_wp2_with fail
  refine HV.out.mono ?_
  rintro e w5 ⟨rfl, hn5, hf5⟩
  have HN5 : Hid (Nt w5 (Iv w.heap.size w5.heap.size) nb kn4) := Lib.hid (hn5.iv (Iv.low _ _) hz4)
  have hb5 := HB4.out.trans (hf5.iv hz4 (Iv.low _ _))
  have hz5 := hb5.size
  have HB5 := Lib.hid hb5
  have e6 : dbld kn3 0 1 = false := by decide
  rw [e6]
  have HU := Lib.hid (all_any w5 _ nb kn4 HN5.out)
  clear hn5 hf5 hb5 e6
  go_wp2_with fail
  refine HU.out.mono ?_
  rintro e w6 ⟨rfl, hb6⟩
  have e6 : kn4.L.length = 3 := by decide
  rw [e6]
  have HB6 := Lib.hid (HB5.out.trans (hb6.mono hz5))
  clear hb6 e6
  go_wp2_with fail
  go_ret
  exact ⟨rfl, HB6.out⟩
end Go.Proofs.Ytiffoafjgcjgoaa
