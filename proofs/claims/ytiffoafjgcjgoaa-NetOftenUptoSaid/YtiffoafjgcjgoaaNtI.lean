/-
  The walks over Links and All.
-/
import Derived.Test.YtiffoafjgcjgoaaNtH
namespace Go.Proofs.Ytiffoafjgcjgoaa
open Go.RowKit

/-! ### a row of links -/
def cellsK : List (Nat × Nat × Nat) → List Value
  | [] => []
  | (f, t, c) :: r => .int .i64 (f : Int) :: .int .i64 (t : Int) :: .int .i64 (c : Int) :: cellsK r
theorem cellsK_length : ∀ l, (cellsK l).length = l.length * 3
  | [] => rfl
  | (f, t, c) :: r => by
    have := cellsK_length r
    simp only [cellsK, List.length_cons, this]
    omega
theorem cellsK_append : ∀ a b, cellsK (a ++ b) = cellsK a ++ cellsK b
  | [], _ => rfl
  | (f, t, c) :: r, b => by
    simp only [List.cons_append, cellsK, cellsK_append r b]
theorem cellsK_at : ∀ (l : List (Nat × Nat × Nat)) (k f t c : Nat), l[k]? = some (f, t, c) →
    (cellsK l)[k * 3]? = some (.int .i64 (f : Int)) ∧ (cellsK l)[k * 3 + 1]? = some (.int .i64 (t : Int)) ∧ (cellsK l)[k * 3 + 2]? = some (.int .i64 (c : Int))
  | [], _, _, _, _, h => by simp at h
  | (a, b, d) :: r, 0, f, t, c, h => by
    obtain ⟨rfl, rfl, rfl⟩ : a = f ∧ b = t ∧ d = c := by simpa using h
    exact ⟨rfl, rfl, rfl⟩
  | (a, b, d) :: r, k + 1, f, t, c, h => by
    have := cellsK_at r k f t c (by simpa using h)
    rw [show (k + 1) * 3 = k * 3 + 3 by omega]
    simpa [cellsK] using this
def OwnK (w : World) (base : Nat) (v : Value) (l : List (Nat × Nat × Nat)) : Prop := w.ownsRow base 61 3 v l.length (cellsK l)
theorem infoLink : (Try.prog.info? 61).map (fun i => (i.zero, i.size, i.bytes)) = some (some (.agg #[.int .i64 0, .int .i64 0, .int .i64 0]), 3, 24) := by kernel_rfl
section
variable {w w' : World} {base : Nat} {v : Value} {l : List (Nat × Nat × Nat)}
theorem OwnK.after (h : OwnK w base v l) (hb : Below w.heap.size w w') : OwnK w' base v l := by
  refine ⟨h.1, ?_⟩
  rcases h.2 with hn | ⟨g, cap, cur, e, h1, h2, h3⟩
  · exact .inl hn
  · exact .inr ⟨g, cap, cur, e, h1, (hb.block g (block_lt h2)).trans h2, h3⟩
theorem OwnK.form (h : OwnK w base v l) : ∃ p cap, v = .slice p l.length cap ∧ l.length ≤ cap ∧ cap ≤ 9223372036854775807 ∧
    ∀ (k f t c : Nat), l[k]? = some (f, t, c) → ∃ g, p = some ⟨g, 0, none⟩ ∧ w.cell? ⟨g, k * 3, none⟩ = some (.int .i64 (f : Int)) ∧ w.cell? ⟨g, k * 3 + 1, none⟩ = some (.int .i64 (t : Int)) ∧ w.cell? ⟨g, k * 3 + 2, none⟩ = some (.int .i64 (c : Int)) := by
  have hrow : w.ownsRow base 61 3 v l.length (cellsK l) := h
  rcases h.2 with ⟨rfl, h0⟩ | ⟨g, cap, cur, rfl, _, hg, h1, h2, _⟩
  · refine ⟨none, 0, by rw [h0], by omega, by omega, fun k f t c hk => ?_⟩
    have := (List.getElem?_eq_some_iff.1 hk).1
    omega
  · refine ⟨_, cap, rfl, h1, by unfold maxLen at h2; exact h2, fun k f t c hk => ?_⟩
    have hlt := (List.getElem?_eq_some_iff.1 hk).1
    obtain ⟨e1, e2, e3⟩ := cellsK_at l k f t c hk
    exact ⟨g, rfl, (hrow.cellAt (k * 3) (by omega)).trans e1, (hrow.cellAt (k * 3 + 1) (by omega)).trans e2, (hrow.cellAt (k * 3 + 2) (by omega)).trans e3⟩
end
theorem link_new (w : World) (f t c : Nat) (ty : TypeId) : ∀ j u, (cellsK [(f, t, c)])[j]? = some u → (w.alloc (.cells #[.int .i64 (f : Int), .int .i64 (t : Int), .int .i64 (c : Int)] ty)).cell? ((⟨w.heap.size, 0, none⟩ : Addr).add j) = some u := by
  intro j u hu
  rw [Addr.add_lit, Nat.zero_add]
  exact cell_of (heap_alloc_new w _) (by simpa [cellsK] using hu)

set_option maxRecDepth 100000 in
set_option maxHeartbeats 4000000 in
theorem links_any (w : World) (S : Nat → Prop) (nb : Nat) (N : PNet) (h : Nt w S nb N) :
    Calls Try.prog 24 #[.pointer (some ⟨nb, 0, none⟩)] w fun e w' => ∃ v, e = .returned v ∧ OwnK w' w.heap.size v (lks N.L N.nodes N.nodes) ∧ Below w.heap.size w w' := by
  obtain ⟨gb, ro, bv, h⟩ := h
  have c2 := h.c2
  have hn16 := h.wf.n2
  have HH := Lib.hid h
  obtain ⟨i0, hi, hz0, hz1, hz2⟩ := info_parts infoLink
  clear h
  go_enter Try.func24, Try.ntmps24
  go_wp2_with fail
  clear c2
  go_loopw [3, 13] (fun v i wr => ∃ (k : Nat) (u : Value), k ≤ N.nodes ∧ i = .int .i64 (k : Int) ∧ u = v ∧ Hid (OwnK wr w.heap.size u (lks N.L N.nodes k) ∧ Below w.heap.size w wr)) (fun _ i _ => N.nodes - (intOf i).toNat)
  case atStart => exact ⟨0, _, by omega, rfl, rfl, Lib.hid ⟨World.ownsRow_nil _ _ _ _, Below.refl _ _⟩⟩
  case round =>
    obtain ⟨k, v0, hk, rfl, rfl, HR⟩ := hrel
    by_cases hlt : k < N.nodes
    · have HA := Lib.hid (HH.out.after HR.out.2)
      have cg := HA.out.gridAt hlt
      have HR0 : Hid (OwnK wr w.heap.size v0 (lks N.L N.nodes k ++ row N.L k 0) ∧ Below w.heap.size w wr) := Lib.hid ⟨by rw [show row N.L k 0 = [] from rfl, List.append_nil]; exact HR.out.1, HR.out.2⟩
      clear HR
      go_wp2_with fail
      clear cg HA
      go_loopw [3, 20] (fun v i wr => ∃ (t : Nat) (u : Value), t ≤ N.nodes ∧ i = .int .i64 (t : Int) ∧ u = v ∧ Hid (OwnK wr w.heap.size u (lks N.L N.nodes k ++ row N.L k t) ∧ Below w.heap.size w wr)) (fun _ i _ => N.nodes - (intOf i).toNat)
      case atStart => exact ⟨0, _, by omega, rfl, rfl, HR0⟩
      case round =>
        clear HR0
        obtain ⟨t, v1, ht, rfl, rfl, HR⟩ := hrel
        by_cases hlt2 : t < N.nodes
        · have hA := HH.out.after HR.out.2
          have cr := hA.rowAt hlt hlt2
          obtain ⟨q, cap, eq, hq1, hq2, _⟩ := (hA.bags k t hlt hlt2).shape
          have e0 : (bag N.L k t).length = cnt N.L k t := rfl
          rw [eq, e0] at cr
          have hcb := hA.wf.cnt k t
          have hb2 := hA.wf.b2
          have HS := Lib.hid (row_succ N.L k t)
          have HL1 := Lib.hid (lks_len N.L N.nodes k)
          have HL2 := Lib.hid (row_len N.L k t)
          by_cases hc : cnt N.L k t = 0
          · have HK : Hid (lk N.L k t = []) := Lib.hid (by unfold lk; rw [if_pos hc])
            rw [hc] at cr
            clear hA eq hq1 e0 hc hcb
            go_wp2_with fail
            go_roundw
            case rel => exact ⟨t + 1, _, by omega, by go_num, rfl, Lib.hid ⟨by rw [HS.out, HK.out, List.append_nil]; exact HR.out.1, HR.out.2⟩⟩
            case measure => simp [intOf]; omega
          · have HK : Hid (lk N.L k t = [(k, t, cnt N.L k t)]) := Lib.hid (by unfold lk; rw [if_neg hc])
            have hc1 : (0 : Int) < (cnt N.L k t : Int) := by omega
            generalize cnt N.L k t = n at *
            clear hA eq hq1 e0 hc
            have hlen : (lks N.L N.nodes k ++ row N.L k t).length ≤ 400 := by
              have h1 := HL1.out
              have h2 := HL2.out
              rw [List.length_append]
              have h3 : k * N.nodes ≤ 16 * 16 := Nat.mul_le_mul (by omega) hn16
              omega
            have HB := Lib.hid (show w.heap.size ≤ wr.heap.size from HR.out.2.size)
            go_wp2_with (at_builtin; refine wpList_append_own _ rfl _ _ 57 rfl w.heap.size 61 i0 _ 3 24 Try.underlying57 hi hz0 hz1 hz2 rfl (by decide) _ _ _ rfl (HR.out.1.after ((Below.refl _ _).alloc (Nat.le_refl _) _)) ⟨wr.heap.size, 0, none⟩ 1 1 (cellsK [(k, t, n)]) rfl rfl (link_new _ _ _ _ _) (by simp [cellsK, Value.oneCell']) (by unfold maxLen; omega) (by omega) (by have := HB.out; simp; omega) ?_; intro v' w3 hown' hg3 hnil3; have HO := Lib.hid hown'; have HG := Lib.hid hg3; clear hown' hg3 hnil3)
            go_roundw
            case rel =>
              refine ⟨t + 1, _, by omega, by go_num, rfl, Lib.hid ⟨?_, (HR.out.2.alloc HB.out _).grown HG.out (by have := HB.out; simp; omega) (fun j hj => (World.ownsRow.lt HR.out.1 j hj).1)⟩⟩
              have h1 := HO.out
              rw [← cellsK_append] at h1
              rw [HS.out, HK.out, ← List.append_assoc]
              show World.ownsRow _ _ _ _ _ _ _
              have e5 : ((lks N.L N.nodes k ++ row N.L k t) ++ [(k, t, n)]).length = (lks N.L N.nodes k ++ row N.L k t).length + 1 := by
                rw [List.length_append]
                rfl
              rw [e5]
              exact h1
            case measure => simp [intOf]; omega
        · obtain rfl : t = N.nodes := by omega
          have HS := Lib.hid (lks_succ N.L N.nodes k)
          go_wp2_with fail
          go_roundw
          case rel => exact ⟨k + 1, _, by omega, by go_num, rfl, Lib.hid ⟨by rw [HS.out]; exact HR.out.1, HR.out.2⟩⟩
          case measure => simp [intOf]; omega
    · obtain rfl : k = N.nodes := by omega
      go_wp2_with fail
      go_ret
      exact ⟨_, rfl, HR.out.1, HR.out.2⟩

theorem tot_take (l : List (Nat × Nat × Nat)) (k : Nat) : tot (l.take k) ≤ tot l := by
  have h : tot l = tot (l.take k) + tot (l.drop k) := by rw [← tot_append, List.take_append_drop]
  omega
theorem tot_snoc (l : List (Nat × Nat × Nat)) (f t c k : Nat) (h : l[k]? = some (f, t, c)) : tot (l.take (k + 1)) = tot (l.take k) + c := by
  rw [take_snoc l k _ h, tot_append]
  simp [tot]

set_option maxRecDepth 100000 in
set_option maxHeartbeats 2000000 in
theorem all_any (w : World) (S : Nat → Prop) (nb : Nat) (N : PNet) (h : Nt w S nb N) :
    Calls Try.prog 16 #[.pointer (some ⟨nb, 0, none⟩)] w fun e w' => e = .returned (.int .i64 (N.L.length : Int)) ∧ Below w.heap.size w w' := by
  have HL := Lib.hid (links_any w S nb N h)
  have htot := h.wf.tot
  have hle := h.wf.len
  have HT := Lib.hid htot
  clear h
  go_enter Try.func16, Try.ntmps16
  go_wp2_with fail
  refine HL.out.mono ?_
  rintro e w1 ⟨v, rfl, ho, hb⟩
  have HB := Lib.hid hb
  generalize lks N.L N.nodes N.nodes = l at *
  obtain ⟨p, cap, rfl, hc1, hc2, hat⟩ := ho.form
  have HO := Lib.hid ho
  clear ho hb hat HL htot
  go_wp2_with fail
  go_loopw [3, 9] (fun s i wr => ∃ k : Nat, k ≤ l.length ∧ i = .int .i64 (k : Int) ∧ s = .int .i64 (tot (l.take k) : Int) ∧ Hid (Below w.heap.size w wr ∧ Below w1.heap.size w1 wr)) (fun _ i _ => l.length - (intOf i).toNat)
  case atStart => exact ⟨0, by omega, rfl, rfl, Lib.hid ⟨HB.out, Below.refl _ _⟩⟩
  case round =>
    obtain ⟨k, hk, rfl, rfl, HR⟩ := hrel
    by_cases hlt : k < l.length
    · obtain ⟨p', cap', e, _, _, hat⟩ := (HO.out.after HR.out.2).form
      injection e with e1 e2 e3
      subst e1
      have hlk : l[k]? = some (l[k].1, l[k].2.1, l[k].2.2) := List.getElem?_eq_getElem hlt
      have HS := Lib.hid (tot_snoc l _ _ _ k hlk)
      obtain ⟨g, rfl, d0, d1, d2⟩ := hat k _ _ _ hlk
      have ht1 := tot_take l (k + 1)
      rw [HS.out] at ht1
      have htot := HT.out
      generalize l[k].1 = f at *
      generalize l[k].2.1 = t at *
      generalize l[k].2.2 = c at *
      generalize tot (l.take k) = s at *
      clear hlk hat
      go_wp2_with fail
      go_roundw
      case rel => exact ⟨k + 1, by omega, by go_num, by rw [HS.out]; go_num, Lib.hid ⟨HR.out.1.alloc (by have := HR.out.1.size; omega) _, HR.out.2.alloc (by have := HR.out.2.size; omega) _⟩⟩
      case measure => simp [intOf]; omega
    · have hke : k = l.length := by omega
      go_wp2_with fail
      go_ret
      rw [← HT.out, hke, List.take_length]
      exact ⟨rfl, HR.out.1⟩
end Go.Proofs.Ytiffoafjgcjgoaa
