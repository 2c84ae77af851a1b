/-
  The walks over bytes.Clone, gf.each (over rows and over numbers), gf.mixed, gf.row.
-/
import Derived.Test.YtjojimmfjmchcaaGnB
import Derived.Lib.SliceRun
namespace Go.Proofs.Ytjojimmfjmchcaa
open Go.RowKit

theorem By.all {w : World} {F : Nat → Prop} {q : Option Addr} {c : Nat} {l : List UInt8} (h : By w F (.slice q l.length c) l) (h0 : 0 < l.length) :
    ∃ b off, q = some ⟨b, off, none⟩ ∧ b < w.heap.size ∧ F b ∧ l.length ≤ c ∧ ∀ j, j < l.length → w.cell? ⟨b, off + j, none⟩ = some (.int .u8 ((l.getD j 0).toNat : Int)) := by
  obtain ⟨b, off, e, hb, hF, _⟩ := By.at_ h h0
  obtain ⟨_, _, e2, hc, _⟩ := By.form h
  injection e2 with _ _ e3
  refine ⟨b, off, e, hb, hF, by omega, fun j hj => ?_⟩
  obtain ⟨b', off', e', _, _, hc'⟩ := By.at_ h hj
  obtain ⟨rfl, rfl⟩ : b = b' ∧ off = off' := by rw [e] at e'; simpa using e'
  exact hc'
theorem own_lit1 (w : World) : Own (w.alloc (.cells #[] 5)) w.heap.size (.slice (some ⟨w.heap.size, 0, none⟩) 0 0) [] := by
  simpa [Own, bs] using World.ownsRow_lit (e := 5) (size := 1) (base := w.heap.size) w #[] 0 (Nat.le_refl _) (Nat.zero_le _) rfl
set_option maxRecDepth 100000 in
set_option maxHeartbeats 1000000 in
theorem clone_any (w : World) (F : Nat → Prop) (q : Option Addr) (c : Nat) (l : List UInt8) (h : By w F (.slice q l.length c) l) (h0 : 0 < l.length) (hl : l.length ≤ 1048576) :
    Calls Try.prog 48 #[.slice q l.length c] w fun e w' => ∃ v', e = .returned v' ∧ Own w' w.heap.size v' l ∧ Below w.heap.size w w' := by
  obtain ⟨b, off, rfl, hb, _, hc, _⟩ := h.all h0
  obtain ⟨X, hX⟩ : ∃ X, w.alloc (.cells #[] 5) = X := ⟨_, rfl⟩
  have hXb : Below w.heap.size w X := by rw [← hX]; exact bel_alloc _ _
  have HO : Hid (Own X w.heap.size (.slice (some ⟨w.heap.size, 0, none⟩) 0 0) []) := Lib.hid (by rw [← hX]; exact own_lit1 w)
  have HR := Lib.hid (h.below hXb).rd
  have HB := Lib.hid hXb
  have hnl : (binOp .eql 48 (.slice (some ⟨b, off, none⟩) l.length c) (.slice none 0 0)).run Try.prog w = .ok (.bool false) w := Lib.run_eql_slice_nil w _ _ _ _ _ 0 0 Try.underlying48
  clear h hXb
  go_enter Try.func48, Try.ntmps48
  go_wp2_with (first
    | (at_builtin
       refine wpList_append_rd rfl (.tmp 5) (.tmp 6) rfl w.heap.size _ _ _ [] l rfl HO.out rfl HR.out (by simp; omega) HB.out.size ?_
       intro v3 w3 ho3 hb3
       have HO3 := Lib.hid ho3
       have HB3 := Lib.hid (HB.out.trans hb3)
       clear ho3 hb3))
  go_ret
  exact ⟨_, rfl, by simpa using HO3.out, HB3.out⟩

/-- What a row's maker must keep to. -/
def RowC (w : World) (fn : FuncId) (args : Array Value) (l : List UInt8) : Prop :=
  ∀ W : World, Below w.heap.size w W → Calls Try.prog fn args W fun e w' => ∃ v', e = .returned v' ∧ Own w' W.heap.size v' l ∧ Below W.heap.size W w'
theorem seat_new {wr w2 : World} {B mb r c k cp : Nat} {us : List Value} {f : MtF} {u : Value} (h : OwL wr (fun k => B ≤ k) (.slice (some ⟨mb, 0, none⟩) r cp) us (frontM r c f k)) (hB : B ≤ wr.heap.size) (hb : Below wr.heap.size wr w2) (ho : Own w2 wr.heap.size u (rowM c (f k))) (hk : k < r) :
    OwL (w2.setCell ⟨mb, k, none⟩ u) (fun k => B ≤ k) (.slice (some ⟨mb, 0, none⟩) r cp) (us.set k u) (frontM r c f (k + 1)) := by
  rw [← frontM_set c f hk]
  refine (h.below hb).seat rfl (by rw [frontM_len c f (by omega)]; exact hk) (row_zero ho) (fun b hb2 => Nat.le_trans hB (World.ownsRow.lt ho b hb2).1) fun i u' b _ hu' hb2 e => ?_
  have h1 := (World.ownsRow.lt ho b hb2).1
  have h2 := h.lt hu' e
  omega
set_option maxRecDepth 100000 in
set_option maxHeartbeats 1000000 in
theorem eachM_any (w : World) (F : Nat → Prop) (v : Value) (rows : List (List UInt8)) (c : Nat) (f : MtF) (ov : Value) (h : Mx w F v rows) (hn : rows.length ≤ 1048576)
    (H : ∀ (i : Nat) (u : Value) (l : List UInt8), rows[i]? = some l → By w F u l → RowC w 47 #[ov, u] (rowM c (f i))) :
    Calls Try.prog 46 #[v, .func (.func 47) #[ov] #[]] w fun e w' => ∃ us, e = .returned (.slice (some ⟨w.heap.size, 0, none⟩) rows.length rows.length) ∧ OwL w' (fun k => w.heap.size ≤ k) (.slice (some ⟨w.heap.size, 0, none⟩) rows.length rows.length) us (tabM rows.length c f) ∧ Below w.heap.size w w' := by
  have hmk := mk_gf rows.length (by omega)
  have HV := Lib.hid h
  have HH := Lib.hid H
  obtain ⟨p, cap, rfl, hlc, _, hcm, _⟩ := h.form
  clear h H
  go_enter Try.func46, Try.ntmps46
  obtain ⟨X, hX⟩ : ∃ X, w.alloc (.cells (Array.replicate rows.length (.slice none 0 0)) 48) = X := ⟨_, rfl⟩
  have HX : Hid (OwL X (fun k => w.heap.size ≤ k) (.slice (some ⟨w.heap.size, 0, none⟩) rows.length rows.length) (List.replicate rows.length (.slice none 0 0)) (List.replicate rows.length [])) := Lib.hid (by rw [← hX]; exact OwL.made w _ (by omega) _ (Nat.le_refl _))
  have HXb : Hid (Below w.heap.size w X) := Lib.hid (by rw [← hX]; exact bel_alloc _ _)
  go_wp2_with fail
  go_loopw [13] (fun i wr => ∃ (k : Nat) (us : List Value), k ≤ rows.length ∧ i = .int .i64 (k : Int) ∧ OwL wr (fun k => w.heap.size ≤ k) (.slice (some ⟨w.heap.size, 0, none⟩) rows.length rows.length) us (frontM rows.length c f k) ∧ Below w.heap.size w wr) (fun i _ => rows.length - (intOf i).toNat)
  case atStart => exact ⟨0, _, by omega, rfl, by rw [frontM_zero]; exact HX.out, HXb.out⟩
  case round =>
    obtain ⟨k, us, hk, rfl, ho, hb⟩ := hrel
    have HO := Lib.hid ho
    have HB := Lib.hid hb
    clear hX
    by_cases hlt : k < rows.length
    · have d1 : decide ((k : Int) < (rows.length : Int)) = true := decide_eq_true (by omega)
      have d2 : decide (k < rows.length) = true := decide_eq_true hlt
      obtain ⟨b, off, q, c1, rfl, hbl, _, k1, r1⟩ := HV.out.at_ (List.getElem?_eq_getElem hlt)
      have k2 := (below_cells hb b _ hbl).trans k1
      have HC := Lib.hid (HH.out k _ _ (List.getElem?_eq_getElem hlt) r1 wr hb)
      generalize rows[k].length = ln at *
      clear ho hb k1 r1
      go_wp2_with fail
      refine HC.out.mono ?_
      rintro e w2 ⟨v', rfl, ho2, hb2⟩
      obtain ⟨mb, cp, u0, hv, _, _, _, _, hu, k3, f3, _⟩ := (HO.out.below hb2).at_ (frontM_at c f hlt)
      obtain ⟨rfl, h9, rfl⟩ : w.heap.size = mb ∧ rows.length = _ ∧ rows.length = cp := by simpa using hv
      clear h9 hv hu
      have HNew := Lib.hid (seat_new HO.out HB.out.size hb2 ho2 hlt)
      have HB2 := Lib.hid hb2
      obtain ⟨pv, nv, cv, hv'⟩ : ∃ pv nv cv, v' = .slice pv nv cv := by
        rcases ho2.2 with ⟨e, _⟩ | ⟨g, cap, cur, e, _⟩
        · exact ⟨_, _, _, e⟩
        · exact ⟨_, _, _, e⟩
      subst hv'
      clear ho2 hb2
      go_wp2_with fail
      refine ⟨⟨k + 1, _, by omega, by go_num, HNew.out, ?_⟩, by simp [intOf]; omega⟩
      exact (HB.out.trans (HB2.out.mono HB.out.size)).trans ((Fr.setCell (fun b => b = w.heap.size) w2 (p := ⟨w.heap.size, k, none⟩) rfl _).below (Nat.le_trans HB.out.size HB2.out.size) fun b hb e => by omega)
    · obtain rfl : k = rows.length := by omega
      clear ho hb
      go_wp2_with fail
      go_ret
      exact ⟨_, rfl, by have h := HO.out; rw [frontM_all] at h; exact h, HB.out⟩
set_option maxRecDepth 100000 in
set_option maxHeartbeats 1000000 in
theorem eachC_any (w : World) (F : Nat → Prop) (v : Value) (rows : List (List UInt8)) (c : Nat) (f : MtF) (h : Mx w F v rows) (hn : rows.length ≤ 1048576)
    (H : ∀ (i : Nat) (u : Value) (l : List UInt8), rows[i]? = some l → By w F u l → RowC w 48 #[u] (rowM c (f i))) :
    Calls Try.prog 46 #[v, .func (.func 48) #[] #[]] w fun e w' => ∃ us, e = .returned (.slice (some ⟨w.heap.size, 0, none⟩) rows.length rows.length) ∧ OwL w' (fun k => w.heap.size ≤ k) (.slice (some ⟨w.heap.size, 0, none⟩) rows.length rows.length) us (tabM rows.length c f) ∧ Below w.heap.size w w' := by
  have hmk := mk_gf rows.length (by omega)
  have HV := Lib.hid h
  have HH := Lib.hid H
  obtain ⟨p, cap, rfl, hlc, _, hcm, _⟩ := h.form
  clear h H
  go_enter Try.func46, Try.ntmps46
  obtain ⟨X, hX⟩ : ∃ X, w.alloc (.cells (Array.replicate rows.length (.slice none 0 0)) 48) = X := ⟨_, rfl⟩
  have HX : Hid (OwL X (fun k => w.heap.size ≤ k) (.slice (some ⟨w.heap.size, 0, none⟩) rows.length rows.length) (List.replicate rows.length (.slice none 0 0)) (List.replicate rows.length [])) := Lib.hid (by rw [← hX]; exact OwL.made w _ (by omega) _ (Nat.le_refl _))
  have HXb : Hid (Below w.heap.size w X) := Lib.hid (by rw [← hX]; exact bel_alloc _ _)
  go_wp2_with fail
  go_loopw [13] (fun i wr => ∃ (k : Nat) (us : List Value), k ≤ rows.length ∧ i = .int .i64 (k : Int) ∧ OwL wr (fun k => w.heap.size ≤ k) (.slice (some ⟨w.heap.size, 0, none⟩) rows.length rows.length) us (frontM rows.length c f k) ∧ Below w.heap.size w wr) (fun i _ => rows.length - (intOf i).toNat)
  case atStart => exact ⟨0, _, by omega, rfl, by rw [frontM_zero]; exact HX.out, HXb.out⟩
  case round =>
    obtain ⟨k, us, hk, rfl, ho, hb⟩ := hrel
    have HO := Lib.hid ho
    have HB := Lib.hid hb
    clear hX
    by_cases hlt : k < rows.length
    · have d1 : decide ((k : Int) < (rows.length : Int)) = true := decide_eq_true (by omega)
      have d2 : decide (k < rows.length) = true := decide_eq_true hlt
      obtain ⟨b, off, q, c1, rfl, hbl, _, k1, r1⟩ := HV.out.at_ (List.getElem?_eq_getElem hlt)
      have k2 := (below_cells hb b _ hbl).trans k1
      have HC := Lib.hid (HH.out k _ _ (List.getElem?_eq_getElem hlt) r1 wr hb)
      generalize rows[k].length = ln at *
      clear ho hb k1 r1
      go_wp2_with fail
      refine HC.out.mono ?_
      rintro e w2 ⟨v', rfl, ho2, hb2⟩
      obtain ⟨mb, cp, u0, hv, _, _, _, _, hu, k3, f3, _⟩ := (HO.out.below hb2).at_ (frontM_at c f hlt)
      obtain ⟨rfl, h9, rfl⟩ : w.heap.size = mb ∧ rows.length = _ ∧ rows.length = cp := by simpa using hv
      clear h9 hv hu
      have HNew := Lib.hid (seat_new HO.out HB.out.size hb2 ho2 hlt)
      have HB2 := Lib.hid hb2
      obtain ⟨pv, nv, cv, hv'⟩ : ∃ pv nv cv, v' = .slice pv nv cv := by
        rcases ho2.2 with ⟨e, _⟩ | ⟨g, cap, cur, e, _⟩
        · exact ⟨_, _, _, e⟩
        · exact ⟨_, _, _, e⟩
      subst hv'
      clear ho2 hb2
      go_wp2_with fail
      refine ⟨⟨k + 1, _, by omega, by go_num, HNew.out, ?_⟩, by simp [intOf]; omega⟩
      exact (HB.out.trans (HB2.out.mono HB.out.size)).trans ((Fr.setCell (fun b => b = w.heap.size) w2 (p := ⟨w.heap.size, k, none⟩) rfl _).below (Nat.le_trans HB.out.size HB2.out.size) fun b hb e => by omega)
    · obtain rfl : k = rows.length := by omega
      clear ho hb
      go_wp2_with fail
      go_ret
      exact ⟨_, rfl, by have h := HO.out; rw [frontM_all] at h; exact h, HB.out⟩
end Go.Proofs.Ytjojimmfjmchcaa
