/-
  The walks over first, versionOf, tower, size, entry.
-/
import Derived.Test.YtaomneenflkpeaaSkB
import Derived.Test.YtaomneenflkpeaaMemW
import Derived.Lib.AppendStr
import Derived.StillTailTactics
import Derived.IntWalk
namespace Go.Proofs.Ytaomneenflkpeaa
open Go.RowKit

/-- The node at a place, or none. -/
def ndAt (ns : List Nd) (P : Nat) : Option Nat := (ns[P]?).map Nd.blk
theorem nxt_zero {ns : List Nd} (h : ∀ nd ∈ ns, 1 ≤ nd.h) (P : Nat) : nxt (ns.drop P) 0 = ndAt ns P := by
  unfold ndAt
  cases e : ns[P]? with
  | none =>
    rw [List.drop_of_length_le (List.getElem?_eq_none_iff.1 e)]
    rfl
  | some nd => exact nxt_drop (Nat.le_refl _) e (h nd (List.mem_of_getElem? e)) (fun m x h1 h2 => by omega)

theorem index12_run (w : World) (v0 v1 v2 v3 v4 v5 v6 v7 v8 v9 v10 v11 : Value) : (Instr.index 90 (.agg #[v0, v1, v2, v3, v4, v5, v6, v7, v8, v9, v10, v11]) (.int .i64 0)).run Try.prog w = .ok v0 w := by
  simp [Instr.index, run_underlying Try.underlying90, asIntOf, part, Try.sizeOf73, Try.isAgg73, Result.andThen]

set_option maxRecDepth 100000 in
set_option maxHeartbeats 1000000 in
theorem sk_first (w : World) (S : Nat → Prop) (mb : Nat) (T : PTb) (sz : Nat) (dv hv : Value) (hh : Nat) (ns : List Nd) (bk : Option Nat) (h : SkAt w S mb T sz dv hv hh ns bk) (x : Ent) :
    Calls Try.prog 31 #[.pointer (some ⟨mb, 2, none⟩), verV x] w fun r w' => r = .returned (pv (ndAt ns (plcE x T.L))) ∧ Below w.heap.size w w' := by
  obtain ⟨P, hP⟩ : ∃ P, plcE x T.L = P := ⟨_, rfl⟩
  have hPl : P ≤ ns.length := by rw [← h.len, ← hP]; exact plcE_le x T.L
  obtain ⟨X, hX⟩ : ∃ X, w.alloc (.cells #[.string ⟨x.key.toArray⟩, .int .u64 (x.seq : Int), .bool x.gone, .string ⟨x.val.toArray⟩] 59) = X := ⟨_, rfl⟩
  have hb : Below w.heap.size w X := by rw [← hX]; exact (Below.refl _ _).alloc (Nat.le_refl _) _
  have hx0 : X.heap[w.heap.size]? = some (.cells #[.string ⟨x.key.toArray⟩, .int .u64 (x.seq : Int), .bool x.gone, .string ⟨x.val.toArray⟩] 59 (0, 0)) := by
    rw [← hX]
    exact heap_alloc_new w _
  have k0 := cell_of (i := 0) hx0 rfl
  have k1 := cell_of (i := 1) hx0 rfl
  have k2 := cell_of (i := 2) hx0 rfl
  have k3 := cell_of (i := 3) hx0 rfl
  have HPa := Lib.hid (sk_path X S mb T sz dv hv hh ns bk (h.after hb) x)
  rw [hP] at HPa
  rw [hP]
  unfold verV pathV at HPa
  have HS := Lib.hid h
  have HB := Lib.hid hb
  have HL0 : Hid (ptL mb ns P 0 = .pointer (some ⟨pB mb ns P, pO P, none⟩)) := Lib.hid (by
    unfold ptL ptP
    rw [lst_all (fun nd hnd => (h.h1 nd hnd).1) hPl])
  have HNx := Lib.hid (nxt_zero (fun nd hnd => (h.h1 nd hnd).1) P)
  clear hb hx0 h
  unfold verV
  go_enter Try.func31, Try.ntmps31
  go_wp2_with fail
  refine HPa.out.mono ?_
  rintro r w1 ⟨rfl, hb1⟩
  have hbw : Below w.heap.size w w1 := HB.out.trans (hb1.mono HB.out.size)
  have hS1 := HS.out.after hbw
  obtain ⟨q, c, h5, h12, hc1, hc2, hBlt, hcl⟩ := hS1.tow hPl
  have HA := Lib.hid (sk_after w1 (pB mb ns P) (pO P) (pH hh ns P) c q (pv (ndAt ns P)) h5 (fun h0 => by
    have : ns[P]? = none := by
      cases P with
      | zero =>
        have e0 : hh = 0 := h0
        cases e : ns[0]? with
        | none => rfl
        | some nd =>
          have h1 := hS1.h1 nd (List.mem_of_getElem? e)
          have h2 := hS1.hle nd (List.mem_of_getElem? e)
          omega
      | succ i =>
        have hi : ns[i]? = some ns[i] := List.getElem?_eq_getElem (by omega)
        rw [pH_at hi] at h0
        have h1 := hS1.h1 _ (List.getElem_mem (show i < ns.length by omega))
        omega
    unfold ndAt
    rw [this]
    rfl) (fun h0 => by
    obtain ⟨b, e1, e2⟩ := hcl 0 h0
    rw [HNx.out] at e2
    exact ⟨b, e1, e2⟩))
  have HBw := Lib.hid hbw
  clear hb1 hbw hS1 h5 h12 hc1 hc2 hBlt hcl k0 k1 k2 k3
  rw [HL0.out]
  have hix := index12_run w1 (.pointer (some ⟨pB mb ns P, pO P, none⟩)) (ptL mb ns P 1) (ptL mb ns P 2) (ptL mb ns P 3) (ptL mb ns P 4) (ptL mb ns P 5) (ptL mb ns P 6) (ptL mb ns P 7) (ptL mb ns P 8) (ptL mb ns P 9) (ptL mb ns P 10) (ptL mb ns P 11)
  go_wp2_with fail
  refine HA.out.mono ?_
  rintro r w2 ⟨rfl, rfl⟩
  go_wp2_with fail
  go_ret
  exact ⟨rfl, HBw.out⟩

set_option maxRecDepth 100000 in
set_option maxHeartbeats 1000000 in
theorem ver_size (w : World) (x : Ent) (hk : x.key.length ≤ 1099511627776) (hv : x.val.length ≤ 1099511627776) :
    Calls Try.prog 28 #[verV x] w fun r w' => r = .returned (.int .i64 ((x.key.length + x.val.length + 16 : Nat) : Int)) ∧ Below w.heap.size w w' := by
  obtain ⟨X, hX⟩ : ∃ X, w.alloc (.cells #[.string ⟨x.key.toArray⟩, .int .u64 (x.seq : Int), .bool x.gone, .string ⟨x.val.toArray⟩] 59) = X := ⟨_, rfl⟩
  have hb : Below w.heap.size w X := by rw [← hX]; exact (Below.refl _ _).alloc (Nat.le_refl _) _
  have hx0 : X.heap[w.heap.size]? = some (.cells #[.string ⟨x.key.toArray⟩, .int .u64 (x.seq : Int), .bool x.gone, .string ⟨x.val.toArray⟩] 59 (0, 0)) := by
    rw [← hX]
    exact heap_alloc_new w _
  have k0 := cell_of (i := 0) hx0 rfl
  have k3 := cell_of (i := 3) hx0 rfl
  have s1 : (⟨x.key.toArray⟩ : ByteArray).size = x.key.length := by simp [ByteArray.size]
  have s2 : (⟨x.val.toArray⟩ : ByteArray).size = x.val.length := by simp [ByteArray.size]
  have HB := Lib.hid hb
  clear hb hx0
  unfold verV
  go_enter Try.func28, Try.ntmps28
  go_wp2_with fail
  go_ret
  exact ⟨ret_int (by go_num), HB.out⟩

theorem wpList_append_str {w : World} {ops : Array Oper} {rest : List Oper} {o : Oper} {a : Act} {Q : Exit → Act → World → Prop} (hgd : o.guard = none) (s x : Operand)
    (ho : o.op = .call { callee := .builtin .append, args := #[s, x], argTypes := #[28, 9] })
    (base : Nat) (v : Value) (l m : List UInt8) (hs : a.eval s = v) (hown : Own w base v l) (hx : a.eval x = .string ⟨m.toArray⟩)
    (hlen : l.length + m.length ≤ 140737488355328) (hbase : base ≤ w.heap.size)
    (h : ∀ v' w', Own w' base v' (l ++ m) → Below base w w' → wpList Try.prog ops Q rest (a.put o.dst v') w') : wpList Try.prog ops Q (o :: rest) a w := by
  obtain ⟨i0, hi, hz0, hz1, hz2⟩ := info_parts infoU8
  have hsz : (⟨m.toArray⟩ : ByteArray).size = m.length := by simp [ByteArray.size]
  refine Lib.wpList_append_own_string w hgd s x _ _ ho base 5 i0 Try.underlying28 Try.underlying9 hi hz0 hz1 hz2 v l.length (bs l) hs hown ⟨m.toArray⟩ hx (by rw [hsz]; unfold maxLen; omega) (by rw [hsz]; omega) hbase ?_
  intro v' w' hown' hg _
  exact h v' w' (Own.of hown' (by rw [hsz]; simp) (by rw [bs_append]; rfl)) ((Below.refl _ _).grown hg hbase hown.block)
theorem step_append_str {ops : Array Oper} {o : Oper} {a : Act} {w : World} {K : Act → World → Prop} {Q : Exit → Act → World → Prop} {X : Prop} (hg : o.guard = none) (s x : Operand)
    (ho : o.op = .call { callee := .builtin .append, args := #[s, x], argTypes := #[28, 9] })
    (base : Nat) (v : Value) (l m : List UInt8) (hs : a.eval s = v) (hown : Own w base v l) (hx : a.eval x = .string ⟨m.toArray⟩)
    (hlen : l.length + m.length ≤ 140737488355328) (hbase : base ≤ w.heap.size)
    (hK : ∀ v' w', Own w' base v' (l ++ m) → Below base w w' → K (a.put o.dst v') w') :
    if Region.wanted o (yielded ops a.tmps) = true then Oper.wp Try.prog o a w K Q else X := by
  have hw : Region.wanted o (yielded ops a.tmps) = true := by simp [Region.wanted, hg]
  rw [if_pos hw]
  obtain ⟨i0, hi, hz0, hz1, hz2⟩ := info_parts infoU8
  have hsz : (⟨m.toArray⟩ : ByteArray).size = m.length := by simp [ByteArray.size]
  obtain ⟨v', w', hrun, h1, h2, _⟩ := Lib.run_append_own_string (P := Try.prog) w base 28 9 o.type 5 i0 Try.underlying28 Try.underlying9 hi hz0 hz1 hz2 v l.length (bs l) hown ⟨m.toArray⟩ (by rw [hsz]; unfold maxLen; omega) (by rw [hsz]; omega) hbase
  unfold Oper.wp
  simp [execOp, ho, resolve, invoke, builtin, hs, hx, hrun, Result.andThen]
  exact hK v' w' (Own.of h1 (by rw [hsz]; simp) (by rw [bs_append]; rfl)) ((Below.refl _ _).grown h2 hbase hown.block)

set_option maxRecDepth 100000 in
set_option maxHeartbeats 1000000 in
theorem ver_entry (w : World) (x : Ent) (hv : x.val.length ≤ 1099511627776) :
    Calls Try.prog 32 #[verV x] w fun r w' => ∃ q c, r = .returned (entA x q c) ∧ OwnS (fun k => w.heap.size ≤ k) w' (.slice q x.val.length c) x.val ∧ Below w.heap.size w w' := by
  obtain ⟨X, hX⟩ : ∃ X, (w.alloc (.cells #[.string ⟨x.key.toArray⟩, .int .u64 (x.seq : Int), .bool x.gone, .string ⟨x.val.toArray⟩] 59)).alloc (.cells #[.string ⟨#[]⟩, .int .u64 0, .bool false, .slice none 0 0] 30) = X := ⟨_, rfl⟩
  have hb : Below w.heap.size w X := by rw [← hX]; exact ((Below.refl _ _).alloc (Nat.le_refl _) _).alloc (by simp) _
  have hx0 : X.heap[w.heap.size]? = some (.cells #[.string ⟨x.key.toArray⟩, .int .u64 (x.seq : Int), .bool x.gone, .string ⟨x.val.toArray⟩] 59 (0, 0)) := by
    rw [← hX]
    exact (alloc_old (by simp) _).trans (heap_alloc_new w _)
  have hx1 : X.heap[w.heap.size + 1]? = some (.cells #[.string ⟨#[]⟩, .int .u64 0, .bool false, .slice none 0 0] 30 (0, 0)) := by
    rw [← hX]
    exact heap_alloc2_new w _ _
  have k0 : X.cell? ⟨w.heap.size, 0, none⟩ = some (.string ⟨x.key.toArray⟩) := cell_of hx0 rfl
  have k1 : X.cell? ⟨w.heap.size, 1, none⟩ = some (.int .u64 (x.seq : Int)) := cell_of hx0 rfl
  have k2 : X.cell? ⟨w.heap.size, 2, none⟩ = some (.bool x.gone) := cell_of hx0 rfl
  have k3 : X.cell? ⟨w.heap.size, 3, none⟩ = some (.string ⟨x.val.toArray⟩) := cell_of hx0 rfl
  have HB := Lib.hid hb
  have HX1 := Lib.hid hx1
  have HXs : Hid (X.heap.size = w.heap.size + 2) := Lib.hid (by rw [← hX]; simp)
  have HV := Lib.hid hv
  clear hb hx0 hx1 hv
  unfold verV
  go_enter Try.func32, Try.ntmps32
  go_wp2_with fail
  go_region_held3 (fun w' => w'.cell? ⟨w.heap.size, 0, none⟩ = some (.string ⟨x.key.toArray⟩) ∧ w'.cell? ⟨w.heap.size, 1, none⟩ = some (.int .u64 (x.seq : Int)) ∧ w'.cell? ⟨w.heap.size, 2, none⟩ = some (.bool x.gone) ∧ w'.cell? ⟨w.heap.size, 3, none⟩ = some (.string ⟨x.val.toArray⟩))
    (first
      | exact ⟨k0, k1, k2, k3⟩
      | exact ⟨m0, m1, m2, m3⟩
      | exact ⟨g0, g1, g2, g3⟩)
    ((refine step_append_str (by rfl) _ _ (by rfl) X.drew.heap.size (.slice none 0 0) [] x.val (by rfl) (World.ownsRow_nil _ _ _ _) (by rfl) (by have := HV.out; simp; omega) (Nat.le_refl _) ?_
      intro v' w1 ho hb1'
      have hb1 : Below X.heap.size X w1 := ⟨hb1'.os, hb1'.tape, hb1'.output, hb1'.size, hb1'.block⟩
      have hz := HXs.out
      have m0 := (hb1.cell (p := ⟨w.heap.size, 0, none⟩) (by show w.heap.size < _; omega)).trans k0
      have m1 := (hb1.cell (p := ⟨w.heap.size, 1, none⟩) (by show w.heap.size < _; omega)).trans k1
      have m2 := (hb1.cell (p := ⟨w.heap.size, 2, none⟩) (by show w.heap.size < _; omega)).trans k2
      have m3 := (hb1.cell (p := ⟨w.heap.size, 3, none⟩) (by show w.heap.size < _; omega)).trans k3
      have hr1 := (hb1.block (w.heap.size + 1) (by omega)).trans HX1.out
      have r0 := cell_of (i := 0) hr1 rfl
      have r1 := cell_of (i := 1) hr1 rfl
      have r2 := cell_of (i := 2) hr1 rfl
      have r3 := cell_of (i := 3) hr1 rfl
      have z0 := frozen_of (i := 0) hr1
      have z1 := frozen_of (i := 1) hr1
      have z2 := frozen_of (i := 2) hr1
      have z3 := frozen_of (i := 3) hr1
      rw [List.nil_append] at ho
      obtain ⟨p9, c9, rfl, _, _⟩ := ho.shp
      obtain ⟨Z, hZ⟩ : ∃ Z, (((w1.setCell ⟨w.heap.size + 1, 0, none⟩ (.string ⟨x.key.toArray⟩)).setCell ⟨w.heap.size + 1, 1, none⟩ (.int .u64 (x.seq : Int))).setCell ⟨w.heap.size + 1, 2, none⟩ (.bool x.gone)).setCell ⟨w.heap.size + 1, 3, none⟩ (.slice p9 x.val.length c9) = Z := ⟨_, rfl⟩
      have hfZ : Fr (fun k => k = w.heap.size + 1) w1 Z := by
        rw [← hZ]
        exact set4_fr w1 (w.heap.size + 1) (.string ⟨x.key.toArray⟩) (.int .u64 (x.seq : Int)) (.bool x.gone) (.slice p9 x.val.length c9) _ rfl
      have hZb : Z.heap[w.heap.size + 1]? = some (.cells #[.string ⟨x.key.toArray⟩, .int .u64 (x.seq : Int), .bool x.gone, .slice p9 x.val.length c9] 30 (0, 0)) := by
        rw [← hZ]
        exact set4_heap hr1 _ _ _ _
      have g0 := (World.cell?_of_block (hfZ.block w.heap.size (cell_lt m0) (by omega))).trans m0
      have g1 := (World.cell?_of_block (hfZ.block w.heap.size (cell_lt m0) (by omega))).trans m1
      have g2 := (World.cell?_of_block (hfZ.block w.heap.size (cell_lt m0) (by omega))).trans m2
      have g3 := (World.cell?_of_block (hfZ.block w.heap.size (cell_lt m0) (by omega))).trans m3
      have HO := Lib.hid ho
      have HB1 := Lib.hid hb1
      have HZb := Lib.hid hZb
      have HfZ := Lib.hid hfZ
      clear hb1 hb1' ho hz hr1 hZb hfZ))
  go_wp2_with fail
  have hs := HXs.out
  have hF : Fr (fun k => w.heap.size ≤ k) w Z := ((Fr.of_below HB.out).then ((Fr.of_below HB1.out).mono fun k _ hk => by omega)).then (HfZ.out.mono fun k _ hk => by omega)
  refine bodyPost_ret (v := .agg #[.string ⟨x.key.toArray⟩, .int .u64 (x.seq : Int), .bool x.gone, .slice p9 x.val.length c9]) (results_ent1 rfl _ _ (w.heap.size + 1) _ rfl HZb.out rfl) rfl ⟨p9, c9, rfl, ⟨?_, ?_⟩, hF.below (Nat.le_refl _) fun k hk hle => by omega⟩
  · refine (HO.out.keep fun k hk => ?_).more (Nat.zero_le _)
    have hlo := HO.out.block k hk
    obtain ⟨cur, hc⟩ := HO.out.heap hk
    exact HfZ.out.block k (block_lt hc) (fun e => by simp at hlo; omega)
  · intro k hk
    have hlo := HO.out.block k hk
    simp at hlo
    omega
end Go.Proofs.Ytaomneenflkpeaa
