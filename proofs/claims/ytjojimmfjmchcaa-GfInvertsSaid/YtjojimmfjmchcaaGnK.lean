/-
  The walks over gf.addRow and gf.both, and over what both makes.
-/
import Derived.Test.YtjojimmfjmchcaaGnD
import Derived.Test.YtjojimmfjmchcaaGmQ
namespace Go.Proofs.Ytjojimmfjmchcaa
open Go.RowKit

set_option maxRecDepth 100000 in
set_option maxHeartbeats 1000000 in
theorem addRow_any (w : World) (G : Nat → Prop) (v : Value) (us : List Value) (n i k : Nat) (b : G8) (a : MtF) (h : OwL w G v us (tabM n n a)) (hi : i < n) (hk : k < n) (hn : n ≤ 255) :
    Calls Try.prog 50 #[v, .int .i64 (i : Int), .int .i64 (k : Int), .int .u8 (b.toNat : Int)] w fun e w' => e = .returned (.tuple #[]) ∧ OwL w' G v us (tabM n n (addR a i k b)) ∧ Fr G w w' := by
  obtain ⟨mb, cap, u, rfl, hcap, hcap2, _, _, hu, k1, _, hou⟩ := h.at_ (tabM_at hi n a)
  obtain ⟨mb', cap', u', hv', _, _, _, _, hu', k2, _, hou'⟩ := h.at_ (tabM_at hk n a)
  obtain ⟨rfl, h9, rfl⟩ : mb = mb' ∧ True ∧ cap = cap' := by simpa using hv'
  clear h9 hv'
  obtain ⟨g, cp, rfl, hg1, _, _⟩ := own_form hou (by rw [rowM_len]; omega)
  obtain ⟨g', cp', rfl, hg1', _, hlt'⟩ := own_form hou' (by rw [rowM_len]; omega)
  rw [rowM_len] at k1 k2 hu hu' hou hou' hg1 hg1'
  have hT := addTimes_any w.drew g cp n g' 0 cp' b (a k) (a i) hou hlt' hg1' (by omega) (fun j hj => by
    have hc := (own_cell hou' (i := j) (by rw [rowM_len]; exact hj)).1
    rw [rowM_nat hj] at hc
    rw [Nat.zero_add]
    exact hc) (.inr rfl)
  have HT := Lib.hid hT
  have HO := Lib.hid h
  have HU := Lib.hid hu
  rw [tabM_len] at hcap
  rw [tabM_len] at HO
  rw [tabM_len]
  have d1 : decide (i < n) = true := decide_eq_true hi
  have d2 : decide (k < n) = true := decide_eq_true hk
  clear h hu hu' hou hou' hT
  go_enter Try.func50, Try.ntmps50
  refine wp_region_quiet_tail 9 (by kernel_rfl) (by kernel_rfl) ?_
  simp only [List.take_succ_cons, List.take_zero, List.drop_succ_cons, List.drop_zero]
  repeat (go_big_quiet_step (fail))
  refine wpQuiet_nil ?_
  go_wp2_with fail
  refine HT.out.mono ?_
  rintro e w2 ⟨rfl, ho2, hf2⟩
  have HO2 := Lib.hid ho2
  have HF2 := Lib.hid hf2
  clear ho2 hf2
  go_wp2_with fail
  go_end0
  have hfw : Fr (fun x => x = g) w w2 := ⟨HF2.out.os, HF2.out.tape, HF2.out.output, HF2.out.size, HF2.out.block⟩
  refine ⟨rfl, ?_, hfw.mono fun x _ e => by rw [e]; exact HO.out.blks i _ g HU.out rfl⟩
  have h5 := HO.out.rowTo HU.out rfl hfw HO2.out
  rw [tabM_set] at h5
  exact h5
/-- Two matrices on which each step is done alike, and the boxes of the two steps. -/
structure GaS (w : World) (GL GR : Nat → Prop) (vl vr : Value) (usl usr : List Value) (p1 p2 n : Nat) (a o : MtF) : Prop where
  l : OwL w GL vl usl (tabM n n a)
  r : OwL w GR vr usr (tabM n n o)
  x1 : w.heap[p1]? = some (.cells #[.func (.func 50) #[vl] #[]] 79 (0, 0))
  x2 : w.heap[p2]? = some (.cells #[.func (.func 50) #[vr] #[]] 79 (0, 0))
  d : ∀ k, GL k → ¬ GR k
  d1 : ¬ GL p1 ∧ ¬ GR p1
  d2 : ¬ GL p2 ∧ ¬ GR p2
theorem GaS.keep {w w' : World} {GL GR : Nat → Prop} {vl vr : Value} {usl usr : List Value} {p1 p2 n : Nat} {a o : MtF} (h : GaS w GL GR vl vr usl usr p1 p2 n a o) (hb : Below w.heap.size w w') : GaS w' GL GR vl vr usl usr p1 p2 n a o :=
  ⟨h.l.below hb, h.r.below hb, (hb.block _ (block_lt h.x1)).trans h.x1, (hb.block _ (block_lt h.x2)).trans h.x2, h.d, h.d1, h.d2⟩
set_option maxRecDepth 100000 in
set_option maxHeartbeats 1000000 in
theorem do_any (w : World) (GL GR : Nat → Prop) (vl vr : Value) (usl usr : List Value) (p1 p2 n i k : Nat) (b : G8) (a o : MtF) (h : GaS w GL GR vl vr usl usr p1 p2 n a o) (hi : i < n) (hk : k < n) (hn : n ≤ 255) :
    Calls Try.prog 60 #[.int .i64 (i : Int), .int .i64 (k : Int), .int .u8 (b.toNat : Int), .pointer (some ⟨p1, 0, none⟩), .pointer (some ⟨p2, 0, none⟩)] w fun e w' => e = .returned (.tuple #[]) ∧ GaS w' GL GR vl vr usl usr p1 p2 n (addR a i k b) (addR o i k b) ∧ Fr (fun x => GL x ∨ GR x) w w' := by
  have HH := Lib.hid h
  have HL := Lib.hid (addRow_any w GL vl usl n i k b a h.l hi hk hn)
  have c1 := cell_of (i := 0) h.x1 rfl
  have hbl : i < 9223372036854775807 := by omega
  have HI := Lib.hid (And.intro hi (And.intro hk hn))
  clear h hi hk hn
  go_enter Try.func60, Try.ntmps60
  go_wp2_with fail
  refine HL.out.mono ?_
  rintro e w2 ⟨rfl, ho2, hf2⟩
  have hr2 : OwL w2 GR vr usr (tabM n n o) := HH.out.r.step hf2 fun k _ h1 h2 => HH.out.d k h2 h1
  have hx2 := (hf2.block p2 (block_lt HH.out.x2) HH.out.d2.1).trans HH.out.x2
  have hx1 := (hf2.block p1 (block_lt HH.out.x1) HH.out.d1.1).trans HH.out.x1
  have c2 := cell_of (i := 0) hx2 rfl
  have HR := Lib.hid (addRow_any w2 GR vr usr n i k b o hr2 HI.out.1 HI.out.2.1 HI.out.2.2)
  have H2 := Lib.hid (And.intro ho2 (And.intro hf2 (And.intro hx1 hx2)))
  clear ho2 hf2 hr2 hx1 hx2
  go_wp2_with fail
  refine HR.out.mono ?_
  rintro e w3 ⟨rfl, ho3, hf3⟩
  have HO3 := Lib.hid (And.intro ho3 hf3)
  clear ho3 hf3
  go_wp2_with fail
  go_end0
  obtain ⟨q1, q2, q3, q4⟩ := H2.out
  obtain ⟨q5, q6⟩ := HO3.out
  refine ⟨rfl, ⟨q1.step q6 fun k _ h1 h2 => HH.out.d k h1 h2, q5, (q6.block p1 (block_lt q3) HH.out.d1.2).trans q3, (q6.block p2 (block_lt q4) HH.out.d2.2).trans q4, HH.out.d, HH.out.d1, HH.out.d2⟩, ?_⟩
  exact (q2.mono fun x _ h => .inl h).then (q6.mono fun x _ h => .inr h)
theorem both_any (w : World) (vl vr : Value) (h1 : ∃ p n c, vl = .slice p n c) (h2 : ∃ p n c, vr = .slice p n c) :
    Calls Try.prog 49 #[.func (.func 50) #[vl] #[], .func (.func 50) #[vr] #[]] w fun e w' => e = .returned (.func (.func 60) #[] #[.pointer (some ⟨w.heap.size, 0, none⟩), .pointer (some ⟨w.heap.size + 1, 0, none⟩)]) ∧
      w'.heap[w.heap.size]? = some (.cells #[.func (.func 50) #[vl] #[]] 79 (0, 0)) ∧ w'.heap[w.heap.size + 1]? = some (.cells #[.func (.func 50) #[vr] #[]] 79 (0, 0)) ∧ Below w.heap.size w w' := by
  obtain ⟨p, n, c, rfl⟩ := h1
  obtain ⟨p', n', c', rfl⟩ := h2
  go_enter Try.func49, Try.ntmps49
  go_wp2_with fail
  go_ret
  refine ⟨rfl, ?_, ?_, ?_⟩
  · exact (alloc_old (by simp) _).trans (heap_alloc_new w _)
  · exact heap_alloc2_new w _ _
  · exact (bel_alloc _ _).alloc (by simp) _
end Go.Proofs.Ytjojimmfjmchcaa
