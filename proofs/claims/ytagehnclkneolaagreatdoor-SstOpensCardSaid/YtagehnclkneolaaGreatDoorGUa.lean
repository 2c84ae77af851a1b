import Derived.Test.YtagehnclkneolaaGreatDoorGSg
import Derived.Test.YtagehnclkneolaaGreatDoorGTa

/-
  The reference's opening, told plainly: what its steps find is what the scan finds; its numbers.
-/
namespace Go.Proofs.YtagehnclkneolaaGreatDoor

theorem right_snoc {L : List Ent} {x : Ent} (h : rightE L = true) (h1 : oneE x = true) (h2 : ∀ y, L[L.length - 1]? = some y → lessE y x = true) : rightE (L ++ [x]) = true := by
  rw [rightE_at] at h ⊢
  intro k hk
  rcases Nat.lt_or_ge k L.length with hlt | hge
  · rw [List.getElem_append_left hlt]
    refine ⟨(h k hlt).1, fun h0 => ?_⟩
    rw [List.getElem_append_left (by omega)]
    exact (h k hlt).2 h0
  · have hk2 : k = L.length := by simp at hk; omega
    subst hk2
    rw [List.getElem_append_right (Nat.le_refl _)]
    refine ⟨by simpa using h1, fun h0 => ?_⟩
    rw [List.getElem_append_left (by omega)]
    simpa using h2 _ (List.getElem?_eq_getElem (by omega))
theorem right_snoc_one {L r : List Ent} {x : Ent} (h1 : oneE x = false) : rightE (L ++ x :: r) = false := by
  rcases hd : rightE (L ++ x :: r) with _ | _
  · rfl
  · exfalso
    have h := (rightE_iff.1 hd).1 x (by simp)
    rw [h1] at h
    cases h
theorem right_snoc_less {L r : List Ent} {x y : Ent} (hy : L[L.length - 1]? = some y) (h1 : lessE y x = false) : rightE (L ++ x :: r) = false := by
  rcases hd : rightE (L ++ x :: r) with _ | _
  · rfl
  · exfalso
    have hl : 0 < L.length := by
      rcases Nat.eq_zero_or_pos L.length with e | e
      · have := List.eq_nil_of_length_eq_zero e
        subst this
        cases hy
      · exact e
    have h := ((rightE_at.1 hd) L.length (by simp)).2 hl
    rw [List.getElem_append_left (by omega), List.getElem_append_right (Nat.le_refl _)] at h
    have e1 := List.getElem?_eq_getElem (l := L) (i := L.length - 1) (by omega)
    rw [e1] at hy
    obtain rfl : L[L.length - 1] = y := by simpa using hy
    simp at h
    rw [h1] at h
    cases h

/-! ### an entry, piece by piece -/
theorem scB_err {l : List UInt8} {m : Nat} {k : List UInt8} {n e : Nat} (h : rdBytes l m = (k, n, e)) (he : e ≠ 0) (b : Bool) : (scB m (l, b)).2.2 = true := by
  unfold scB; simp only [h]; simp [he]
theorem scG_keep (s : ScS) (h : s.2 = true) : (scG s).2.2 = true := by
  obtain ⟨l, b⟩ := s
  cases l with
  | nil => rfl
  | cons x r =>
    by_cases hx : 1 < x.toNat
    · simp only [scG, if_pos hx]
    · simp only [scG, if_neg hx]; exact h
theorem scB_keep (m : Nat) (s : ScS) (h : s.2 = true) : (scB m s).2.2 = true := by unfold scB; simp [h]
theorem scN_keep (s : ScS) (h : s.2 = true) : (scN s).2.2 = true := by unfold scN; simp [h]
theorem scB_good {l k : List UInt8} {m n : Nat} (h : rdBytes l m = (k, n, 0)) : scB m (l, false) = (k, (l.drop n, false)) := by
  unfold scB; simp only [h]; rfl
theorem scN_good {l : List UInt8} {v n : Nat} (h : rdNum l = (v, n, 0)) : scN (l, false) = (v, (l.drop n, false)) := by
  unfold scN; simp only [h]; rfl
theorem scE_k {l k : List UInt8} {n e : Nat} (h : rdBytes l 65535 = (k, n, e)) (he : e ≠ 0) : (scE l).2.2 = true := by
  unfold scE
  exact scB_keep _ _ (scG_keep _ (scN_keep _ (scB_err h he _)))
theorem scE_n {l k : List UInt8} {n v m e : Nat} (h : rdBytes l 65535 = (k, n, 0)) (h2 : rdNum (l.drop n) = (v, m, e)) (he : e ≠ 0) : (scE l).2.2 = true := by
  unfold scE
  rw [scB_good h]
  refine scB_keep _ _ (scG_keep _ ?_)
  unfold scN
  simp only [h2]
  simp [he]
theorem scE_g0 {l k : List UInt8} {n v m : Nat} (h : rdBytes l 65535 = (k, n, 0)) (h2 : rdNum (l.drop n) = (v, m, 0)) (h3 : l.length ≤ n + m) : (scE l).2.2 = true := by
  unfold scE
  rw [scB_good h]
  simp only
  rw [scN_good h2]
  refine scB_keep _ _ ?_
  rw [List.drop_drop, List.drop_eq_nil_of_le (by omega)]
  rfl
theorem scE_g1 {l k : List UInt8} {n v m : Nat} {x : UInt8} (h : rdBytes l 65535 = (k, n, 0)) (h2 : rdNum (l.drop n) = (v, m, 0)) (h3 : l[n + m]? = some x) (hx : 1 < x.toNat) : (scE l).2.2 = true := by
  unfold scE
  rw [scB_good h]
  simp only
  rw [scN_good h2]
  refine scB_keep _ _ ?_
  rw [List.drop_drop]
  obtain ⟨hl, rfl⟩ := List.getElem?_eq_some_iff.1 h3
  rw [List.drop_eq_getElem_cons hl]
  simp only [scG, if_pos hx]
theorem scE_v {l k u : List UInt8} {n v m q e : Nat} {x : UInt8} (h : rdBytes l 65535 = (k, n, 0)) (h2 : rdNum (l.drop n) = (v, m, 0)) (h3 : l[n + m]? = some x) (hx : ¬ 1 < x.toNat) (h4 : rdBytes (l.drop (n + m + 1)) 33554432 = (u, q, e)) (he : e ≠ 0) : (scE l).2.2 = true := by
  unfold scE
  rw [scB_good h]
  simp only
  rw [scN_good h2]
  simp only
  rw [List.drop_drop]
  obtain ⟨hl, rfl⟩ := List.getElem?_eq_some_iff.1 h3
  rw [List.drop_eq_getElem_cons hl]
  simp only [scG, if_neg hx]
  exact scB_err h4 he _
theorem scE_ok {l k u : List UInt8} {n v m q : Nat} {x : UInt8} (h : rdBytes l 65535 = (k, n, 0)) (h2 : rdNum (l.drop n) = (v, m, 0)) (h3 : l[n + m]? = some x) (hx : ¬ 1 < x.toNat) (h4 : rdBytes (l.drop (n + m + 1)) 33554432 = (u, q, 0)) :
    scE l = (⟨k, v, x.toNat == 1, u⟩, (l.drop (n + m + 1 + q), false)) := by
  have e1 : scN ((scB 65535 (l, false)).2) = (v, (l.drop (n + m), false)) := by rw [scB_good h]; simp only; rw [scN_good h2, List.drop_drop]
  have e2 : scG (l.drop (n + m), false) = (x.toNat == 1, (l.drop (n + m + 1), false)) := by
    obtain ⟨hl, rfl⟩ := List.getElem?_eq_some_iff.1 h3
    rw [List.drop_eq_getElem_cons hl]
    simp only [scG, if_neg hx]
  have e3 : scB 33554432 (l.drop (n + m + 1), false) = (u, (l.drop (n + m + 1 + q), false)) := by rw [scB_good h4, List.drop_drop]
  unfold scE
  rw [e1, scB_good h]
  simp only
  rw [e2]
  simp only
  rw [e3]

/-! ### a block's entries, behind some -/
def entR (p : List UInt8) (L : List Ent) : Option (List Ent) :=
  if p = [] then none else
  match scA p with
  | none => none
  | some es => if rightE (L ++ es) = true then some es else none
theorem entR_nil (L : List Ent) : entR [] L = none := rfl
theorem entR_bad {p : List UInt8} {L : List Ent} (h : scA p = none) : entR p L = none := by
  unfold entR
  split
  · rfl
  · rw [h]
theorem entR_wrong {p r : List UInt8} {L done : List Ent} {x : Ent} (hp : scA p = (scA r).map (done ++ ·)) (h0 : r ≠ []) (hg : (scE r).2.2 = false) (hx : (scE r).1 = x) (hw : ∀ s, rightE (L ++ done ++ x :: s) = false) : entR p L = none := by
  rw [scA_good h0 hg, hx] at hp
  cases hs : scA (scE r).2.1 with
  | none => rw [hs] at hp; exact entR_bad (by simpa using hp)
  | some es =>
    rw [hs] at hp
    unfold entR
    split
    · rfl
    · rw [hp]
      simp only [Option.map_some]
      rw [if_neg]
      have := hw es
      rw [List.append_assoc] at this
      simp [this]
theorem entR_some {p : List UInt8} {L es : List Ent} (h0 : p ≠ []) (h : scA p = some es) (hr : rightE (L ++ es) = true) : entR p L = some es := by
  unfold entR
  rw [if_neg h0, h]
  simp only
  rw [if_pos hr]
theorem blkP_entR {l p : List UInt8} {L : List Ent} {n : Nat} (h : rdFrame l = (p, n, 0)) : blkP l L = (entR p L).map (fun es => (n, es)) := by
  unfold blkP entR
  rw [h]
  simp only
  by_cases h0 : p = []
  · rw [if_pos (.inr h0), if_pos h0]; rfl
  · rw [if_neg (by simp [h0]), if_neg h0]
    cases hs : scA p with
    | none => rfl
    | some es =>
      simp only
      by_cases hr : rightE (L ++ es) = true
      · rw [if_pos hr, if_pos hr]; rfl
      · rw [if_neg hr, if_neg hr]; rfl
theorem blkP_frame {l p : List UInt8} {L : List Ent} {n e : Nat} (h : rdFrame l = (p, n, e)) (he : e ≠ 0) : blkP l L = none := by
  unfold blkP
  rw [if_pos (.inl (by rw [h]; exact he))]

/-! ### the reference's numbers: too great ones are -1 -/
def r8 (n : Nat) : Int := if 1099511627776 < n then -1 else (n : Int)
theorem r8_lt (n : Nat) : r8 n = -1 ∧ 1099511627776 < n ∨ r8 n = (n : Int) ∧ n ≤ 1099511627776 := by
  unfold r8
  split
  · exact .inl ⟨rfl, by assumption⟩
  · exact .inr ⟨rfl, by omega⟩
end Go.Proofs.YtagehnclkneolaaGreatDoor

/-
  The walk over the reference's read8.
-/
namespace Go.Proofs.YtagehnclkneolaaGreatDoor
open Go.RowKit

theorem or_shl8 (X y : Nat) (hX : X < 256 ^ 7) (hy : y < 256) : bits .or .u64 ((X : Int) * 256) (y : Int) = ((y + 256 * X : Nat) : Int) := by
  have e : (X : Int) * 256 = ((X * 256 : Nat) : Int) := by omega
  have hs : X * 256 < 18446744073709551616 := by omega
  rw [e, u64_or_nat _ _ hs (by omega)]
  congr 1
  have h := Nat.two_pow_add_eq_or_of_lt (i := 8) (b := y) (by omega) X
  rw [show X * 256 = 2 ^ 8 * X by omega, ← h]
  omega

set_option maxRecDepth 100000 in
set_option maxHeartbeats 1000000 in
theorem read8_any (v : Value) (l : List UInt8) (B : Nat) (w : World) (h : Rd w B v l) (hl : 8 ≤ l.length) :
    Calls Tryz.prog 44 #[v] w fun e w' => e = .returned (.int .i64 (r8 (unlow (l.take 8)))) ∧ w = w' := by
  obtain ⟨p, cap, rfl, hlc, hl47, hcm, hat⟩ := h.form
  clear h
  have HA := Lib.hid hat
  obtain ⟨res, hres⟩ : ∃ res, r8 (unlow (l.take 8)) = res := ⟨_, rfl⟩
  have HRes := Lib.hid hres
  rw [hres]
  clear hat hres
  go_enter Tryz.func44, Tryz.ntmps44
  go_wp2_with fail
  go_loop [3, 4] (fun t i => ∃ k : Nat, k ≤ 8 ∧ i = .int .i64 ((k : Int) - 1) ∧ t = .int .u64 (unlow ((l.take 8).drop k) : Int)) (fun _ i => (intOf i + 1).toNat)
  case atStart => exact ⟨8, by omega, rfl, by rw [List.drop_eq_nil_of_le (by rw [List.length_take]; omega)]; rfl⟩
  case round =>
    obtain ⟨k, hk, rfl, rfl⟩ := hrel
    rcases Nat.eq_zero_or_pos k with rfl | hp
    · rw [List.drop_zero]
      have d1 : decide (0 ≤ ((0 : Nat) : Int) - 1) = false := decide_eq_false (by omega)
      have hu := unlow_lt (l.take 8)
      rw [List.length_take, Nat.min_eq_left hl] at hu
      have hres := HRes.out
      clear HRes
      generalize unlow (l.take 8) = U at *
      rcases r8_lt U with ⟨h1, h2⟩ | ⟨h1, h2⟩
      · have d2 : decide ((1099511627776 : Int) < (U : Int)) = true := decide_eq_true (by omega)
        rw [h1] at hres
        subst hres
        clear h1 h2
        go_wp2_with fail
        go_ret
        exact ⟨rfl, rfl⟩
      · have d2 : decide ((1099511627776 : Int) < (U : Int)) = false := decide_eq_false (by omega)
        have hw2 : IntKind.i64.wrap (U : Int) = (U : Int) := IntWalk.i64_in _ (by omega)
        rw [h1] at hres
        subst hres
        clear h1 h2
        go_wp2_with fail
        go_ret
        exact ⟨rfl, rfl⟩
    · obtain ⟨j, rfl⟩ : ∃ j, k = j + 1 := ⟨k - 1, by omega⟩
      have ej : ((j + 1 : Nat) : Int) - 1 = (j : Int) := by omega
      rw [ej]
      have d1 : decide (0 ≤ (j : Int)) = true := decide_eq_true (by omega)
      obtain ⟨b, off, x, rfl, hb, hx, hc⟩ := HA.out j (by omega)
      have hx8 : x.toNat < 256 := x.toNat_lt
      have hul := unlow_lt ((l.take 8).drop (j + 1))
      rw [List.length_drop, List.length_take, Nat.min_eq_left hl] at hul
      have hul7 : unlow ((l.take 8).drop (j + 1)) < 256 ^ 7 := Nat.lt_of_lt_of_le hul (Nat.pow_le_pow_right (by decide) (by omega))
      have HV := Lib.hid (or_shl8 (unlow ((l.take 8).drop (j + 1))) x.toNat hul7 hx8)
      have HSn : Hid (unlow ((l.take 8).drop j) = x.toNat + 256 * unlow ((l.take 8).drop (j + 1))) := Lib.hid (by
        have h1 : (l.take 8)[j]? = some x := by rw [List.getElem?_take_of_lt (by omega)]; exact hx
        obtain ⟨hl2, e2⟩ := List.getElem?_eq_some_iff.1 h1
        rw [List.drop_eq_getElem_cons hl2, e2]
        rfl)
      have hw8 : IntKind.i64.wrap ((j : Int) - 1) = (j : Int) - 1 := IntWalk.i64_in _ (by omega)
      have hj8 : j < l.length := by omega
      generalize unlow ((l.take 8).drop (j + 1)) = X at *
      clear hx hul
      go_wp2_with fail
      go_round
      case rel =>
        refine ⟨j, by omega, by go_num, ?_⟩
        rw [HSn.out, ← HV.out]
      case measure => first | (simp [intOf]; done) | (simp [intOf]; omega)
end Go.Proofs.YtagehnclkneolaaGreatDoor

/-
  The reference's entries, read so far; one more is laid behind.
-/
namespace Go.Proofs.YtagehnclkneolaaGreatDoor
open Go.RowKit

/-- A block's entries, read so far by the reference. w: the world at the call's begin; ev: the row that was there. -/
structure EnsR (w : World) (base : Nat) (ev : Value) (L : List Ent) (p : List UInt8) (wr : World) (at_ : Nat) (done : List Ent) (n : Nat) (pe : Option Addr) (ce : Nat) (vs : List Value) : Prop where
  len : (L ++ done).length = n
  en : EnR wr base (.slice pe n ce) (L ++ done) vs
  fr : Fr (fun k => ev.ownBlock = some k) w wr
  evb : (Value.slice pe n ce).ownBlock = ev.ownBlock ∨ ∀ k, (Value.slice pe n ce).ownBlock = some k → w.heap.size ≤ k
  par : scA p = (scA (p.drop at_)).map (done ++ ·)
  le : at_ ≤ p.length
  rt : rightE (L ++ done) = true
  wg : wgt done + 31 * (p.length - at_) ≤ 31 * p.length
  sq : ∀ e ∈ done, e.seq < 18446744073709551616

section
variable {w wr w2 W w3 : World} {base n at_ a2 : Nat} {ev : Value} {vs : List Value} {L done : List Ent} {p : List UInt8} {pe q p9 : Option Addr} {ce c c9 : Nat} {x : Ent}
theorem EnsR.put (h : EnsR w base ev L p wr at_ done n pe ce vs) (hbs : base ≤ wr.heap.size)
    (h0 : p.drop at_ ≠ []) (hE : scE (p.drop at_) = (x, (p.drop a2, false))) (ha2 : a2 ≤ p.length) (hr : rightE (L ++ done ++ [x]) = true)
    (hb2 : Below wr.heap.size wr w2) (ho : Own w2 wr.heap.size (.slice q x.val.length c) x.val) (hbW : Below w2.heap.size w2 W)
    (hrow : w3.ownsRow base 37 4 (.slice p9 (n + 1) c9) (n + 1) (cellsE (L ++ done) vs ++ cellsE [x] [.slice q x.val.length c])) (hgr : W.grownBy w3 (Value.slice pe n ce).ownBlock)
    (hat : (Value.slice p9 (n + 1) c9).ownBlock = (Value.slice pe n ce).ownBlock ∨ (Value.slice p9 (n + 1) c9).ownBlock = some W.heap.size) :
    EnsR w base ev L p w3 a2 (done ++ [x]) (n + 1) p9 c9 (vs ++ [.slice q x.val.length c]) := by
  obtain ⟨hgood, hsq, _, _⟩ := scE_good (p.drop at_) (by rw [hE])
  rw [hE] at hgood hsq
  simp only [List.length_drop] at hgood hsq
  have hal := h.le
  have hpl : ∀ k, (Value.slice pe n ce).ownBlock = some k → k < wr.heap.size := fun k hk => row_lt h.en.row k hk
  have hbWr : Below wr.heap.size wr W := hb2.trans (hbW.mono hb2.size)
  have hT : Fr (fun k => (Value.slice pe n ce).ownBlock = some k) wr w3 := (Fr.of_new hbWr _).then (Fr.grown hgr (fun k hk => hk))
  have hT2 : Fr (fun k => (Value.slice pe n ce).ownBlock = some k) w2 w3 := (Fr.of_new hbW _).then (Fr.grown hgr (fun k hk => hk))
  refine ⟨?_, ?_, ?_, ?_, ?_, ha2, ?_, ?_, ?_⟩
  · have := h.len
    simp only [List.length_append, List.length_cons, List.length_nil] at this ⊢
    omega
  · refine ⟨by simp [h.en.len]; omega, ?_, fun k e u h1 h2 => ?_⟩
    · rw [← List.append_assoc, cellsE_append _ _ _ _ h.en.len, List.length_append, h.len]
      exact hrow
    · rw [← List.append_assoc] at h1
      by_cases hj : k < (L ++ done).length
      · rw [List.getElem?_append_left hj] at h1
        rw [List.getElem?_append_left (by rw [h.en.len]; exact hj)] at h2
        have hm := List.mem_of_getElem? h2
        exact (h.en.val k e u h1 h2).keep fun j hjb => hT.block j (h.en.lt hm hjb).2 (h.en.ne_row hm hjb)
      · rw [List.getElem?_append_right (by omega)] at h1
        rw [List.getElem?_append_right (by rw [h.en.len]; omega), h.en.len] at h2
        cases hq : k - (L ++ done).length with
        | zero =>
          rw [hq] at h1 h2
          obtain rfl : x = e := by simpa using h1
          obtain rfl : Value.slice q x.val.length c = u := by simpa using h2
          refine (ho.more hbs).keep fun j hjb => hT2.block j (World.ownsRow.lt ho j hjb).2 (fun e2 => ?_)
          have h3 := (World.ownsRow.lt ho j hjb).1
          have := hpl j e2
          omega
        | succ m =>
          rw [hq] at h1
          simp at h1
  · refine h.fr.trans (hT.mono fun k _ e => ?_)
    rcases h.evb with e2 | e2
    · exact .inl (by rw [← e2]; exact e)
    · exact .inr (e2 k e)
  · rcases hat with e | e
    · rcases h.evb with e2 | e2
      · exact .inl (e.trans e2)
      · exact .inr fun k hk => e2 k (by rw [← e]; exact hk)
    · refine .inr fun k hk => ?_
      rw [e] at hk
      obtain rfl : W.heap.size = k := by simpa using hk
      have h1 := h.fr.size
      have h2 := hbWr.size
      omega
  · rw [h.par, scA_good h0 (by rw [hE]), hE]
    cases scA (p.drop a2) <;> simp
  · rw [← List.append_assoc]; exact hr
  · have := h.wg
    rw [wgt_append]
    simp only [wgt]
    omega
  · intro e he
    rcases List.mem_append.1 he with he | he
    · exact h.sq e he
    · obtain rfl : e = x := by simpa using he
      exact hsq
end

/-! ### a new entry, its value made anew -/
def ent0 : Obj := .cells #[.string ⟨#[]⟩, .int .u64 0, .bool false, .slice none 0 0] 37 (0, 0)
theorem ent_app {w1 : World} {base : Nat} {v' : Value} {u : List UInt8} (ho : w1.ownsRow base 5 1 v' (0 + u.length) ([] ++ bs u)) : ∃ p9 c9, v' = .slice p9 u.length c9 ∧ Own w1 base (.slice p9 u.length c9) u := by
  rw [Nat.zero_add, List.nil_append] at ho
  obtain ⟨p9, c9, rfl, _, _⟩ := row_shape ho
  exact ⟨p9, c9, rfl, ho⟩
theorem ent_facts {V : World} {xb : Nat} (hz : V.heap[xb]? = some ent0) :
    V.frozen? ⟨xb, 0, none⟩ = false ∧ V.frozen? ⟨xb, 1, none⟩ = false ∧ V.frozen? ⟨xb, 2, none⟩ = false ∧ V.frozen? ⟨xb, 3, none⟩ = false ∧
    V.cell? ⟨xb, 0, none⟩ = some (.string ⟨#[]⟩) ∧ V.cell? ⟨xb, 1, none⟩ = some (.int .u64 0) ∧ V.cell? ⟨xb, 2, none⟩ = some (.bool false) ∧ V.cell? ⟨xb, 3, none⟩ = some (.slice none 0 0) := by
  unfold ent0 at hz
  exact ⟨frozen_of (i := 0) hz, frozen_of (i := 1) hz, frozen_of (i := 2) hz, frozen_of (i := 3) hz, cell_of (i := 0) hz rfl, cell_of (i := 1) hz rfl, cell_of (i := 2) hz rfl, cell_of (i := 3) hz rfl⟩
theorem ent_set {w V : World} {xb : Nat} {p9 : Option Addr} {c9 : Nat} {u : List UInt8} (a b c : Value) (hz : V.heap[xb]? = some ent0) (ho : Own V w.heap.size (.slice p9 u.length c9) u) (hb : Below w.heap.size w V) (hx : w.heap.size ≤ xb) :
    (set4 V xb a b c (.slice p9 u.length c9)).heap[xb]? = some (.cells #[a, b, c, .slice p9 u.length c9] 37 (0, 0)) ∧ Own (set4 V xb a b c (.slice p9 u.length c9)) w.heap.size (.slice p9 u.length c9) u ∧
    Below w.heap.size w (set4 V xb a b c (.slice p9 u.length c9)) := by
  have hfr := set4_fr V xb a b c (.slice p9 u.length c9) (fun k => k = xb) rfl
  refine ⟨set4_heap hz _ _ _ _, ho.keep fun k hk => hfr.block k (World.ownsRow.lt ho k hk).2 (fun e => ?_), hb.trans (hfr.below hb.size (fun k hk e => by omega))⟩
  obtain ⟨cur, hc⟩ := ho.heap hk
  subst e
  exact kind_ne hz hc (by decide) rfl
end Go.Proofs.YtagehnclkneolaaGreatDoor
