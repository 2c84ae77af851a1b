/-
  The walk over glacierref6.Seen: of versions in order, what is seen up to a number.
-/
import Derived.Test.YteclnnjijfbfoaaMeP
import Derived.IntWalk
namespace Go.Proofs.Yteclnnjijfbfoaa
open Go.RowKit

/-- What one more entry makes. -/
theorem seenS_step {l : List Ent} {k : Nat} (hk : k < l.length) (up : Nat) (d : Bool)
    (hd : (0 < k ∧ l[k].key ≠ (l[k - 1]'(by omega)).key ∧ d = false) ∨ ((k = 0 ∨ l[k].key = (l[k - 1]'(by omega)).key) ∧ d = (seenS up l k).2)) :
    seenS up l (k + 1) = if d = true ∨ up < l[k].seq then ((seenS up l k).1, d) else (if l[k].gone = true then (seenS up l k).1 else (seenS up l k).1 ++ [l[k]], true) := by
  have he : (if (match l[k - 1]? with | some f => 0 < k && l[k].key != f.key | none => false) = true then false else (seenS up l k).2) = d := by
    rw [List.getElem?_eq_getElem (by omega)]
    rcases hd with ⟨h0, h1, rfl⟩ | ⟨h, rfl⟩
    · rw [if_pos (by simp [h0, h1])]
    · rw [if_neg]
      rcases h with rfl | h
      · simp
      · simp [h]
  rw [← he]
  conv => lhs; unfold seenS
  rw [List.getElem?_eq_getElem hk]
  rfl
theorem seenS_len (up : Nat) (l : List Ent) : ∀ k, (seenS up l k).1.length ≤ k
  | 0 => by simp [seenS]
  | k + 1 => by
    have ih := seenS_len up l k
    unfold seenS
    split
    · omega
    · dsimp only
      generalize (if (match l[k - 1]? with | some f => 0 < k && _ != f.key | none => false) = true then false else (seenS up l k).2) = d
      split
      · exact Nat.le_succ_of_le ih
      · dsimp only
        split
        · exact Nat.le_succ_of_le ih
        · simp; omega

/-- The row of what is seen so far. -/
def SeenW (w1 : World) (F : Nat → Prop) (o : List Ent) (v : Value) (wr : World) : Prop :=
  ∃ us, us.length = o.length ∧ wr.ownsRow w1.heap.size 33 4 v o.length (cellsE o us) ∧ (∀ (j : Nat) (e : Ent) (u : Value), o[j]? = some e → us[j]? = some u → By w1 F u e.val) ∧ Below w1.heap.size w1 wr
theorem SeenW.drewN {w1 wr : World} {F : Nat → Prop} {o : List Ent} {v : Value} (h : SeenW w1 F o v wr) (n : Nat) : SeenW w1 F o v (wr.drewN n) := by
  obtain ⟨us, h1, h2, h3, h4⟩ := h
  exact ⟨us, h1, row_keep h2 fun _ _ => rfl, h3, below_drewN h4 n⟩
theorem SeenW.snoc {w1 w2 : World} {F : Nat → Prop} {o : List Ent} {v' u : Value} {e : Ent} {us : List Value} (h1 : us.length = o.length) (h3 : ∀ (j : Nat) (e : Ent) (u : Value), o[j]? = some e → us[j]? = some u → By w1 F u e.val)
    (hr : w2.ownsRow w1.heap.size 33 4 v' (o.length + 1) (cellsE o us ++ cellsE [e] [u])) (hb : Below w1.heap.size w1 w2) (hu : By w1 F u e.val) : SeenW w1 F (o ++ [e]) v' w2 := by
  refine ⟨us ++ [u], by simp [h1], ?_, fun j x y hx hy => ?_, hb⟩
  · rw [List.length_append, cellsE_append _ _ _ _ h1]
    exact hr
  · by_cases hj : j < o.length
    · rw [List.getElem?_append_left hj] at hx
      rw [List.getElem?_append_left (by omega)] at hy
      exact h3 j x y hx hy
    · rw [List.getElem?_append_right (by omega)] at hx
      rw [List.getElem?_append_right (by omega), h1] at hy
      cases hq : j - o.length with
      | zero =>
        rw [hq] at hx hy
        obtain rfl : e = x := by simpa using hx
        obtain rfl : u = y := by simpa using hy
        exact hu
      | succ n =>
        rw [hq] at hx
        simp at hx

set_option maxRecDepth 100000 in
set_option maxHeartbeats 4000000 in
theorem r6_seen (w : World) (F : Nat → Prop) (v : Value) (es : List Ent) (h : En w F v es) (hR : rightE es = true) (hl : es.length ≤ 1048576) (up : Nat) :
    Calls Try.prog 10 #[v, .int .u64 (up : Int)] w fun r w' => ∃ u, r = .returned (.tuple #[u, .int .i64 0]) ∧ En w' (fun k => F k ∨ w.heap.size ≤ k) u (seenE es up) ∧ Below w.heap.size w w' := by
  have HRt := Lib.hid (r6_right w F v es h)
  have HV := Lib.hid h
  have hsrt := (rightE_iff.1 hR).2
  have HAll := Lib.hid (seenS_all hsrt up)
  obtain ⟨p, cap, rfl, hlc, hl47, hcm, _⟩ := h.form
  rw [hR] at HRt
  clear h hR hsrt
  go_enter Try.func10, Try.ntmps10
  go_wp2_with fail
  refine HRt.out.mono ?_
  rintro r w1 ⟨rfl, hb1⟩
  have HB1 := Lib.hid hb1
  have HV1 := Lib.hid (HV.out.below hb1)
  clear hb1 HRt HV
  go_wp2_with fail
  go_loopw [6, 7, 8] (fun o d i wr => ∃ k : Nat, k ≤ es.length ∧ i = .int .i64 (k : Int) ∧ d = .bool (seenS up es k).2 ∧ SeenW w1 F (seenS up es k).1 o wr) (fun _ _ i _ => es.length - (intOf i).toNat)
  case atStart => exact ⟨0, by omega, rfl, rfl, [], rfl, World.ownsRow_nil _ _ _ _, (fun j e u h => by simp [seenS] at h), Below.refl _ _⟩
  case round =>
    obtain ⟨k, hk, rfl, rfl, hsw⟩ := hrel
    have HS := Lib.hid hsw
    obtain ⟨us, hus, hrow, hvals, hbw⟩ := hsw
    obtain ⟨po, co, rfl, ho1, ho2⟩ := row_shape hrow
    have hol := seenS_len up es k
    by_cases hlt : k < es.length
    · obtain ⟨b1, off1, q1, c1, rfl, hb1, _, hV1, d0, d1, d2, d3⟩ := (HV1.out.below hbw).at_ (List.getElem?_eq_getElem hlt)
      have HVal := Lib.hid hV1
      have hways : (k = 0 ∧ (seenS up es k).2 = false) ∨ (0 < k ∧ (es[k].key == (es[k - 1]'(by omega)).key) = false) ∨ (0 < k ∧ (es[k].key == (es[k - 1]'(by omega)).key) = true) := by
        rcases Nat.eq_zero_or_pos k with h | h
        · subst h; exact .inl ⟨rfl, rfl⟩
        · rcases hq : (es[k].key == (es[k - 1]'(by omega)).key) with _ | _
          · exact .inr (.inl ⟨h, rfl⟩)
          · exact .inr (.inr ⟨h, rfl⟩)
      have HStep : Hid (∀ d : Bool, ((0 < k ∧ (es[k].key == (es[k - 1]'(by omega)).key) = false ∧ d = false) ∨ ((k = 0 ∨ (es[k].key == (es[k - 1]'(by omega)).key) = true) ∧ d = (seenS up es k).2)) →
          seenS up es (k + 1) = if d = true ∨ up < es[k].seq then ((seenS up es k).1, d) else (if es[k].gone = true then (seenS up es k).1 else (seenS up es k).1 ++ [es[k]], true)) := Lib.hid fun d hd =>
        seenS_step hlt up d (by simpa using hd)
      have hprev : 0 < k → ∃ (bb : b1 < wr.heap.size), wr.cell? ⟨b1, off1 + (k - 1) * 4, none⟩ = some (.string ⟨(es[k - 1]'(by omega)).key.toArray⟩) := fun h0 => by
        obtain ⟨b2, off2, q2, c2, hp2, hb2, _, _, e0, _⟩ := (HV1.out.below hbw).at_ (List.getElem?_eq_getElem (show k - 1 < es.length by omega))
        obtain ⟨rfl, rfl⟩ : b1 = b2 ∧ off1 = off2 := by simpa using hp2
        exact ⟨hb1, e0⟩
      have HVx : Hid (By w1 F (.slice q1 (es[k]).val.length c1) (es[k]).val) := by
        obtain ⟨b3, off3, q3, c3, hp3, hb3, _, hV3, _, _, _, e3⟩ := HV1.out.at_ (List.getElem?_eq_getElem hlt)
        obtain ⟨rfl, rfl⟩ : b1 = b3 ∧ off1 = off3 := by simpa using hp3
        have e4 := (below_cells hbw b1 _ hb3).trans e3
        rw [d3] at e4
        injection Option.some.inj e4 with e5 _ e6
        subst e5 e6
        exact Lib.hid hV3
      generalize es[k] = x at *
      generalize (es[k - 1]'(by omega)) = y at *
      generalize hsk : seenS up es k = sk at *
      obtain ⟨o, dk⟩ := sk
      obtain ⟨xk, xq, xg, xv⟩ := x
      dsimp only at *
      have HOa : Hid (∀ n, ((wr.drewN n).alloc (.cells #[.string ⟨xk.toArray⟩, .int .u64 (xq : Int), .bool xg, .slice q1 xv.length c1] 33)).ownsRow w1.heap.size 33 4 (.slice po o.length co) o.length (cellsE o us)) :=
        Lib.hid fun n => row_keep hrow fun k hk => alloc_old (row_lt hrow k hk) _
      have HCa : Hid (∀ n, Cl ((wr.drewN n).alloc (.cells #[.string ⟨xk.toArray⟩, .int .u64 (xq : Int), .bool xg, .slice q1 xv.length c1] 33)) (fun k => k = wr.heap.size) (.slice (some ⟨wr.heap.size, 0, none⟩) 1 1) 1 (cellsE [⟨xk, xq, xg, xv⟩] [.slice q1 xv.length c1])) :=
        Lib.hid fun n => Cl.new (wr.drewN n) (fun k => k = wr.heap.size) 1 _ #[.string ⟨xk.toArray⟩, .int .u64 (xq : Int), .bool xg, .slice q1 xv.length c1] 33 rfl (by omega) rfl
      have HBa : Hid (∀ n, Below w1.heap.size w1 ((wr.drewN n).alloc (.cells #[.string ⟨xk.toArray⟩, .int .u64 (xq : Int), .bool xg, .slice q1 xv.length c1] 33))) := Lib.hid fun n => (below_drewN hbw n).alloc hbw.size _
      have oneu : Hid (∀ v ∈ cellsE [⟨xk, xq, xg, xv⟩] [.slice q1 xv.length c1], v.oneCell' = true) := Lib.hid (cellsE_one _ _ (by simp [Value.oneCell']))
      have HUs := Lib.hid hus
      have HVals := Lib.hid hvals
      have HSk := Lib.hid hsk
      have HLo : Hid (o.length + 1 ≤ 68719476736) := Lib.hid (by omega)
      clear hrow hus hvals hsk hol hb1 hV1
      rcases hways with ⟨h0, hdk⟩ | ⟨h0, hkey⟩ | ⟨h0, hkey⟩
      · subst hdk
        have HN := Lib.hid (HStep.out false (.inr ⟨.inl h0, rfl⟩))
        have hz : decide ((0 : Int) < (k : Int)) = false := decide_eq_false (by omega)
        have hzn : decide (0 < k) = false := decide_eq_false (by omega)
        clear HStep hprev h0
        by_cases hsq : up < xq
        · have HX : Hid (seenS up es (k + 1) = (o, false)) := Lib.hid (by rw [HN.out, if_pos (.inr hsq)])
          have s1 : decide ((up : Int) < (xq : Int)) = true := decide_eq_true (by omega)
          have s2 : decide (up < xq) = true := decide_eq_true hsq
          clear hsq
          go_wp2_with fail
          go_quiet (fail)
          clear d0 d3
          go_wp2_with fail
          go_roundw
          case rel => exact ⟨k + 1, by omega, by go_num, by rw [HX.out], by rw [HX.out]; exact HS.out.drewN _⟩
          case measure => simp [intOf]; omega
        · have s1 : decide ((up : Int) < (xq : Int)) = false := decide_eq_false (by omega)
          have s2 : decide (up < xq) = false := decide_eq_false hsq
          have hno : ¬ (false = true ∨ up < xq) := fun h => h.elim (fun h => by cases h) hsq
          cases xg
          · have HX : Hid (seenS up es (k + 1) = (o ++ [⟨xk, xq, false, xv⟩], true)) := Lib.hid (by rw [HN.out, if_neg hno]; rfl)
            clear hsq hno
            go_wp2_with fail
            go_quiet (fail)
            rename_i nq
            skip
            go_wp2_with (at_builtin
                         refine slEnt.wpList_append rfl (.tmp 50) (.tmp 55) rfl w1.heap.size (v := .slice po o.length co) (u := .slice (some ⟨wr.heap.size, 0, none⟩) 1 1) rfl rfl (HOa.out nq) (HCa.out nq) rfl oneu.out HLo.out (HBa.out nq).size ?_
                         intro y3 w3 ho3 hg3 ha3
                         have HSn : Hid (SeenW w1 F (o ++ [⟨xk, xq, false, xv⟩]) y3 w3) := Lib.hid (SeenW.snoc HUs.out HVals.out ho3 ((HBa.out nq).grown (by exact hg3) (HBa.out nq).size (row_low (HOa.out nq))) HVx.out)
                         clear ho3 hg3 ha3)
            go_roundw
            case rel => exact ⟨k + 1, by omega, by go_num, by rw [HX.out], by rw [HX.out]; exact HSn.out⟩
            case measure => simp [intOf]; omega
          · have HX : Hid (seenS up es (k + 1) = (o, true)) := Lib.hid (by rw [HN.out, if_neg hno]; rfl)
            clear hsq hno
            go_wp2_with fail
            go_quiet (fail)
            clear d0 d3
            go_wp2_with fail
            go_roundw
            case rel => exact ⟨k + 1, by omega, by go_num, by rw [HX.out], by rw [HX.out]; exact HS.out.drewN _⟩
            case measure => simp [intOf]; omega
      · obtain ⟨bb, e0⟩ := hprev h0
        have HN := Lib.hid (HStep.out false (.inl ⟨h0, hkey, rfl⟩))
        have hkm : (xk != y.key) = true := by simp [bne, hkey]
        have hz : decide ((0 : Int) < (k : Int)) = true := decide_eq_true (by omega)
        have hzn : decide (0 < k) = true := decide_eq_true h0
        have hk1 : (0 : Int) ≤ (k : Int) - 1 := by omega
        have hkl : ((k : Int) - 1) < (es.length : Int) := by omega
        have hwr : IntKind.i64.wrap ((k : Int) - 1) = (k : Int) - 1 := IntWalk.i64_in _ (by omega)
        have hkt : ((k : Int) - 1).toNat = k - 1 := by omega
        clear HStep hprev h0
        by_cases hsq : up < xq
        · have HX : Hid (seenS up es (k + 1) = (o, false)) := Lib.hid (by rw [HN.out, if_pos (.inr hsq)])
          have s1 : decide ((up : Int) < (xq : Int)) = true := decide_eq_true (by omega)
          have s2 : decide (up < xq) = true := decide_eq_true hsq
          clear hsq
          go_wp2_with fail
          go_quiet (fail)
          clear d0 d3 e0 hk1 hkl hwr hkt
          go_wp2_with fail
          go_roundw
          case rel => exact ⟨k + 1, by omega, by go_num, by rw [HX.out], by rw [HX.out]; exact HS.out.drewN _⟩
          case measure => simp [intOf]; omega
        · have s1 : decide ((up : Int) < (xq : Int)) = false := decide_eq_false (by omega)
          have s2 : decide (up < xq) = false := decide_eq_false hsq
          have hno : ¬ (false = true ∨ up < xq) := fun h => h.elim (fun h => by cases h) hsq
          cases xg
          · have HX : Hid (seenS up es (k + 1) = (o ++ [⟨xk, xq, false, xv⟩], true)) := Lib.hid (by rw [HN.out, if_neg hno]; rfl)
            clear hsq hno
            go_wp2_with fail
            go_quiet (fail)
            rename_i nq
            clear e0 hk1 hkl hwr hkt
            go_wp2_with (at_builtin
                         refine slEnt.wpList_append rfl (.tmp 50) (.tmp 55) rfl w1.heap.size (v := .slice po o.length co) (u := .slice (some ⟨wr.heap.size, 0, none⟩) 1 1) rfl rfl (HOa.out nq) (HCa.out nq) rfl oneu.out HLo.out (HBa.out nq).size ?_
                         intro y3 w3 ho3 hg3 ha3
                         have HSn : Hid (SeenW w1 F (o ++ [⟨xk, xq, false, xv⟩]) y3 w3) := Lib.hid (SeenW.snoc HUs.out HVals.out ho3 ((HBa.out nq).grown (by exact hg3) (HBa.out nq).size (row_low (HOa.out nq))) HVx.out)
                         clear ho3 hg3 ha3)
            go_roundw
            case rel => exact ⟨k + 1, by omega, by go_num, by rw [HX.out], by rw [HX.out]; exact HSn.out⟩
            case measure => simp [intOf]; omega
          · have HX : Hid (seenS up es (k + 1) = (o, true)) := Lib.hid (by rw [HN.out, if_neg hno]; rfl)
            clear hsq hno
            go_wp2_with fail
            go_quiet (fail)
            clear d0 d3 e0 hk1 hkl hwr hkt
            go_wp2_with fail
            go_roundw
            case rel => exact ⟨k + 1, by omega, by go_num, by rw [HX.out], by rw [HX.out]; exact HS.out.drewN _⟩
            case measure => simp [intOf]; omega
      · obtain ⟨bb, e0⟩ := hprev h0
        have HN := Lib.hid (HStep.out dk (.inr ⟨.inr hkey, rfl⟩))
        have hkm : (xk != y.key) = false := by simp [bne, hkey]
        have hz : decide ((0 : Int) < (k : Int)) = true := decide_eq_true (by omega)
        have hzn : decide (0 < k) = true := decide_eq_true h0
        have hk1 : (0 : Int) ≤ (k : Int) - 1 := by omega
        have hkl : ((k : Int) - 1) < (es.length : Int) := by omega
        have hwr : IntKind.i64.wrap ((k : Int) - 1) = (k : Int) - 1 := IntWalk.i64_in _ (by omega)
        have hkt : ((k : Int) - 1).toNat = k - 1 := by omega
        clear HStep hprev h0
        cases dk
        · by_cases hsq : up < xq
          · have HX : Hid (seenS up es (k + 1) = (o, false)) := Lib.hid (by rw [HN.out, if_pos (.inr hsq)])
            have s1 : decide ((up : Int) < (xq : Int)) = true := decide_eq_true (by omega)
            have s2 : decide (up < xq) = true := decide_eq_true hsq
            clear hsq
            go_wp2_with fail
            go_quiet (fail)
            clear d0 d3 e0 hk1 hkl hwr hkt
            go_wp2_with fail
            go_roundw
            case rel => exact ⟨k + 1, by omega, by go_num, by rw [HX.out], by rw [HX.out]; exact HS.out.drewN _⟩
            case measure => simp [intOf]; omega
          · have s1 : decide ((up : Int) < (xq : Int)) = false := decide_eq_false (by omega)
            have s2 : decide (up < xq) = false := decide_eq_false hsq
            have hno : ¬ (false = true ∨ up < xq) := fun h => h.elim (fun h => by cases h) hsq
            cases xg
            · have HX : Hid (seenS up es (k + 1) = (o ++ [⟨xk, xq, false, xv⟩], true)) := Lib.hid (by rw [HN.out, if_neg hno]; rfl)
              clear hsq hno
              go_wp2_with fail
              go_quiet (fail)
              rename_i nq
              clear e0 hk1 hkl hwr hkt
              go_wp2_with (at_builtin
                           refine slEnt.wpList_append rfl (.tmp 50) (.tmp 55) rfl w1.heap.size (v := .slice po o.length co) (u := .slice (some ⟨wr.heap.size, 0, none⟩) 1 1) rfl rfl (HOa.out nq) (HCa.out nq) rfl oneu.out HLo.out (HBa.out nq).size ?_
                           intro y3 w3 ho3 hg3 ha3
                           have HSn : Hid (SeenW w1 F (o ++ [⟨xk, xq, false, xv⟩]) y3 w3) := Lib.hid (SeenW.snoc HUs.out HVals.out ho3 ((HBa.out nq).grown (by exact hg3) (HBa.out nq).size (row_low (HOa.out nq))) HVx.out)
                           clear ho3 hg3 ha3)
              go_roundw
              case rel => exact ⟨k + 1, by omega, by go_num, by rw [HX.out], by rw [HX.out]; exact HSn.out⟩
              case measure => simp [intOf]; omega
            · have HX : Hid (seenS up es (k + 1) = (o, true)) := Lib.hid (by rw [HN.out, if_neg hno]; rfl)
              clear hsq hno
              go_wp2_with fail
              go_quiet (fail)
              clear d0 d3 e0 hk1 hkl hwr hkt
              go_wp2_with fail
              go_roundw
              case rel => exact ⟨k + 1, by omega, by go_num, by rw [HX.out], by rw [HX.out]; exact HS.out.drewN _⟩
              case measure => simp [intOf]; omega
        · have HX : Hid (seenS up es (k + 1) = (o, true)) := Lib.hid (by rw [HN.out, if_pos (.inl rfl)])
          go_wp2_with fail
          go_quiet (fail)
          clear d0 d3 e0 hk1 hkl hwr hkt
          go_wp2_with fail
          go_roundw
          case rel => exact ⟨k + 1, by omega, by go_num, by rw [HX.out], by rw [HX.out]; exact HS.out.drewN _⟩
          case measure => simp [intOf]; omega
    · have hk2 : k = es.length := by omega
      subst hk2
      have HFin : Hid (En wr (fun k => F k ∨ w.heap.size ≤ k) (.slice po (seenS up es es.length).1.length co) (seenE es up) ∧ Below w.heap.size w wr) := Lib.hid (by
        have hz1 := HB1.out.size
        rw [← HAll.out]
        refine ⟨⟨us, hus, Cl.of_own hrow (by omega) (fun k hk => .inr (by have := row_low hrow k hk; omega)) (cellsE_length _ _ hus), fun j e u h1 h2 => ?_⟩, HB1.out.trans (hbw.mono hz1)⟩
        exact ((hvals j e u h1 h2).below hbw).mono fun _ _ hF => .inl hF)
      clear hus hrow hvals hbw
      go_wp2_with fail
      go_ret2
      exact ⟨_, rfl, HFin.out⟩
end Go.Proofs.Yteclnnjijfbfoaa
