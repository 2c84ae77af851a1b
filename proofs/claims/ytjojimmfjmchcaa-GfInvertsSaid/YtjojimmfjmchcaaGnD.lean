/-
  The walks over gf.each over numbers, gf.row, gf.mixed; slices.ContainsFunc over numbers.
-/
import Derived.Test.YtjojimmfjmchcaaGnC
namespace Go.Proofs.Ytjojimmfjmchcaa
open Go.RowKit

set_option maxRecDepth 100000 in
set_option maxHeartbeats 1000000 in
theorem eachR_any (w : World) (F : Nat → Prop) (v mv : Value) (rows : List Int) (c : Nat) (f : MtF) (h : Cl w F v rows.length (rows.map (Value.int .i64))) (hn : rows.length ≤ 1048576)
    (H : ∀ (i : Nat) (z : Int), rows[i]? = some z → RowC w 57 #[mv, .int .i64 z] (rowM c (f i))) :
    Calls Try.prog 56 #[v, .func (.func 57) #[mv] #[]] w fun e w' => ∃ us, e = .returned (.slice (some ⟨w.heap.size, 0, none⟩) rows.length rows.length) ∧ OwL w' (fun k => w.heap.size ≤ k) (.slice (some ⟨w.heap.size, 0, none⟩) rows.length rows.length) us (tabM rows.length c f) ∧ Below w.heap.size w w' := by
  have hmk := mk_gf rows.length (by omega)
  have HV := Lib.hid h
  have HH := Lib.hid H
  obtain ⟨p, cap, rfl, hlc, _, hcm, _⟩ := h.form
  clear h H
  go_enter Try.func56, Try.ntmps56
  obtain ⟨X, hX⟩ : ∃ X, w.alloc (.cells (Array.replicate rows.length (.slice none 0 0)) 48) = X := ⟨_, rfl⟩
  have HX : Hid (OwL X (fun k => w.heap.size ≤ k) (.slice (some ⟨w.heap.size, 0, none⟩) rows.length rows.length) (List.replicate rows.length (.slice none 0 0)) (List.replicate rows.length [])) := Lib.hid (by rw [← hX]; exact OwL.made w _ (by omega) _ (Nat.le_refl _))
  have HXb : Hid (Below w.heap.size w X) := Lib.hid (by rw [← hX]; exact bel_alloc _ _)
  go_wp2_with fail
  go_loopw [13] (fun i wr => ∃ (k : Nat) (us : List Value), k ≤ rows.length ∧ i = .int .i64 (k : Int) ∧ OwL wr (fun k => w.heap.size ≤ k) (.slice (some ⟨w.heap.size, 0, none⟩) rows.length rows.length) us (frontM rows.length c f k) ∧ Below w.heap.size w wr) (fun i _ => rows.length - (intOf i).toNat)
  case atStart => exact ⟨0, _, by omega, rfl, by rw [frontM_zero]; exact HX.out, HXb.out⟩
  case round =>
    obtain ⟨k, us, hk, rfl, ho, hb⟩ := hrel
    have HO := Lib.hid ho
    have HB := Lib.hid hb
    clear hX
    by_cases hlt : k < rows.length
    · have d1 : decide ((k : Int) < (rows.length : Int)) = true := decide_eq_true (by omega)
      have d2 : decide (k < rows.length) = true := decide_eq_true hlt
      obtain ⟨b, off, rfl, hbl, _, k1⟩ := HV.out.at_ (j := k) (x := .int .i64 rows[k]) (by simp [hlt])
      have k2 := (below_cells hb b _ hbl).trans k1
      have HC := Lib.hid (HH.out k _ (List.getElem?_eq_getElem hlt) wr hb)
      generalize rows[k] = ln at *
      clear ho hb k1
      go_wp2_with fail
      refine HC.out.mono ?_
      rintro e w2 ⟨v', rfl, ho2, hb2⟩
      obtain ⟨mb, cp, u0, hv, _, _, _, _, hu, k3, f3, _⟩ := (HO.out.below hb2).at_ (frontM_at c f hlt)
      obtain ⟨rfl, h9, rfl⟩ : w.heap.size = mb ∧ rows.length = _ ∧ rows.length = cp := by simpa using hv
      clear h9 hv hu
      have HNew := Lib.hid (seat_new HO.out HB.out.size hb2 ho2 hlt)
      have HB2 := Lib.hid hb2
      obtain ⟨pv, nv, cv, hv'⟩ : ∃ pv nv cv, v' = .slice pv nv cv := by
        rcases ho2.2 with ⟨e, _⟩ | ⟨g, cap, cur, e, _⟩
        · exact ⟨_, _, _, e⟩
        · exact ⟨_, _, _, e⟩
      subst hv'
      clear ho2 hb2
      go_wp2_with fail
      refine ⟨⟨k + 1, _, by omega, by go_num, HNew.out, ?_⟩, by simp [intOf]; omega⟩
      exact (HB.out.trans (HB2.out.mono HB.out.size)).trans ((Fr.setCell (fun b => b = w.heap.size) w2 (p := ⟨w.heap.size, k, none⟩) rfl _).below (Nat.le_trans HB.out.size HB2.out.size) fun b hb e => by omega)
    · obtain rfl : k = rows.length := by omega
      clear ho hb
      go_wp2_with fail
      go_ret
      exact ⟨_, rfl, by have h := HO.out; rw [frontM_all] at h; exact h, HB.out⟩

set_option maxRecDepth 100000 in
set_option maxHeartbeats 1000000 in
theorem row_any (w : World) (F : Nat → Prop) (v : Value) (rows : List (List UInt8)) (h : Mx w F v rows) (k : Nat) (l : List UInt8) (hk : rows[k]? = some l) (h0 : 0 < l.length) (hl : l.length ≤ 1048576) :
    Calls Try.prog 57 #[v, .int .i64 (k : Int)] w fun e w' => ∃ v', e = .returned v' ∧ Own w' w.heap.size v' l ∧ Below w.heap.size w w' := by
  obtain ⟨p, cap, rfl, hlc, _, hcm, _⟩ := h.form
  obtain ⟨b, off, q, c1, rfl, hbl, _, k1, r1⟩ := h.at_ hk
  have hlt : k < rows.length := (List.getElem?_eq_some_iff.1 hk).1
  have HC := Lib.hid (clone_any w F q c1 l r1 h0 hl)
  have d2 : decide (k < rows.length) = true := decide_eq_true hlt
  generalize l.length = ln at *
  clear h hk r1
  go_enter Try.func57, Try.ntmps57
  go_wp2_with fail
  refine HC.out.mono ?_
  rintro e w2 ⟨v', rfl, ho2, hb2⟩
  have HO2 := Lib.hid ho2
  have HB2 := Lib.hid hb2
  clear ho2 hb2
  go_wp2_with fail
  go_ret
  exact ⟨_, rfl, HO2.out, HB2.out⟩

theorem own_base {w : World} {base g n cap : Nat} {l : List UInt8} (h : Own w 0 (.slice (some ⟨g, 0, none⟩) n cap) l) (hb : base ≤ g) : Own w base (.slice (some ⟨g, 0, none⟩) n cap) l := by
  refine ⟨h.1, ?_⟩
  rcases h.2 with ⟨e, _⟩ | ⟨g', cp, cur, e, _, h3⟩
  · cases e
  · obtain ⟨rfl, _⟩ : g = g' ∧ True := by
      simp only [Value.slice.injEq, Option.some.injEq, Addr.mk.injEq] at e
      exact ⟨e.1.1, trivial⟩
    exact .inr ⟨g, cp, cur, e, hb, h3⟩

theorem dotN_zero (f x : Nat → G8) : dotN 0 f x = 0#8 := rfl
theorem dotN_succ (n : Nat) (f x : Nat → G8) : dotN (n + 1) f x = dotN n f x ^^^ mulG (f n) (x n) := rfl
set_option maxRecDepth 100000 in
set_option maxHeartbeats 2000000 in
theorem mixed_any (w : World) (F F' : Nat → Prop) (v u : Value) (r c : Nat) (fo : MtF) (fl : Nat → G8) (hv : Mx w F v (tabM r c fo)) (hu : By w F' u (rowM r fl)) (hr : 1 ≤ r) (hr2 : r ≤ 1048576) (hc : 1 ≤ c) (hc2 : c ≤ 1048576) :
    Calls Try.prog 47 #[v, u] w fun e w' => ∃ v', e = .returned v' ∧ Own w' w.heap.size v' (rowM c fun j => dotN r fl fun k => fo k j) ∧ Below w.heap.size w w' := by
  have HV := Lib.hid hv
  have HU := Lib.hid hu
  obtain ⟨p, cap, rfl, hlc, _, hcm, _⟩ := hv.form
  obtain ⟨b0, o0, q0, c0, rfl, hb0, _, k0, r0⟩ := hv.at_ (tabM_at (show 0 < r by omega) c fo)
  rw [rowM_len, Nat.add_zero] at k0
  rw [tabM_len] at hlc HV
  rw [tabM_len]
  obtain ⟨qu, cu, rfl, hlu, _, hcu, _⟩ := hu.form
  obtain ⟨bu, ou, rfl, hbu, _, _, hcell⟩ := hu.all (by rw [rowM_len]; omega)
  rw [rowM_len] at hlu hcell
  rw [rowM_len]
  have HCl := Lib.hid hcell
  have hmb := mk_bytes c (by omega)
  clear hv hu r0 hcell
  go_enter Try.func47, Try.ntmps47
  obtain ⟨X, hX⟩ : ∃ X, w.alloc (.cells (bs (zeroR c)).toArray 5) = X := ⟨_, rfl⟩
  have HX : Hid (Own X w.heap.size (.slice (some ⟨w.heap.size, 0, none⟩) c c) (zeroR c)) := Lib.hid (by rw [← hX]; exact own_made w c (by omega))
  have HXb : Hid (Below w.heap.size w X) := Lib.hid (by rw [← hX]; exact bel_alloc _ _)
  obtain ⟨Z, hZ⟩ : ∃ Z, (bs (zeroR c)).toArray = Z := ⟨_, rfl⟩
  rw [hZ] at hmb hX
  clear hZ
  have d0 : decide (0 < r) = true := decide_eq_true (by omega)
  have d00 : (0 : Int) < (r : Int) := by omega
  go_wp2_with fail
  go_loopw [15] (fun i wr => ∃ k : Nat, k ≤ r ∧ i = .int .i64 (k : Int) ∧ Own wr w.heap.size (.slice (some ⟨w.heap.size, 0, none⟩) c c) (rowM c fun j => dotN k fl fun k => fo k j) ∧ Below w.heap.size w wr) (fun i _ => r - (intOf i).toNat)
  case atStart => exact ⟨0, by omega, rfl, HX.out, HXb.out⟩
  case round =>
    obtain ⟨k, hk, rfl, ho, hb⟩ := hrel
    have HO := Lib.hid ho
    have HB := Lib.hid hb
    clear hX
    by_cases hlt : k < r
    · have d1 : decide ((k : Int) < (r : Int)) = true := decide_eq_true (by omega)
      have d2 : decide (k < r) = true := decide_eq_true hlt
      have e1 : wr.cell? ⟨bu, ou + k, none⟩ = some (.int .u8 ((fl k).toNat : Int)) := by
        have h := (below_cells hb bu _ hbu).trans (HCl.out k hlt)
        rw [rowM_nat hlt] at h
        exact h
      obtain ⟨b1, o1, q1, c1, hp1, hbl, _, k1, r1⟩ := HV.out.at_ (tabM_at hlt c fo)
      obtain ⟨rfl, rfl⟩ : b0 = b1 ∧ o0 = o1 := by simpa using hp1
      rw [rowM_len] at k1
      have k2 := (below_cells hb b0 _ hbl).trans k1
      obtain ⟨bf, of, rfl, hbf, _, hcf, hcells⟩ := r1.all (by rw [rowM_len]; omega)
      rw [rowM_len] at hcf hcells
      have HA := Lib.hid (addTimes_any wr w.heap.size c c bf of c1 (fl k) (fo k) (fun j => dotN k fl fun k => fo k j) (row_zero ho) (Nat.lt_of_lt_of_le hbf hb.size) hcf hc2 (fun j hj => by
        have h := (below_cells hb bf _ hbf).trans (hcells j hj)
        rw [rowM_nat hj] at h
        exact h) (.inl (by omega)))
      generalize hy : fl k = y at *
      have HY := Lib.hid hy
      clear hy
      clear ho hb hp1 k1 r1 hcells
      go_wp2_with fail
      refine HA.out.mono ?_
      rintro e w2 ⟨rfl, ho2, hf2⟩
      have HO2 := Lib.hid ho2
      have HF2 := Lib.hid hf2
      clear ho2 hf2
      go_wp2_with fail
      refine ⟨⟨k + 1, by omega, by go_num, ?_, HB.out.trans (HF2.out.below HB.out.size fun b hb e => by omega)⟩, by simp [intOf]; omega⟩
      have h := own_base HO2.out (Nat.le_refl w.heap.size)
      rw [← HY.out] at h
      exact h
    · obtain rfl : k = r := by omega
      clear ho hb
      go_wp2_with fail
      go_ret
      exact ⟨_, rfl, HO.out, HB.out⟩
end Go.Proofs.Ytjojimmfjmchcaa
