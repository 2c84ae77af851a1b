import Derived.Test.YtagehnclkneolaaGreatDoorGSe
import Derived.Test.YtagehnclkneolaaGreatDoorGQa
import Derived.Test.YtagehnclkneolaaGreatDoorGQb
import Derived.Test.YtagehnclkneolaaGreatDoorEnD

/-
  Opening, told plainly: a scan over a block's bytes, the blocks, the whole table; what is built is opened.
-/
namespace Go.Proofs.YtagehnclkneolaaGreatDoor

/-! ### a scan -/
abbrev ScS := List UInt8 × Bool
def scB (m : Nat) (s : ScS) : List UInt8 × ScS := ((rdBytes s.1 m).1, (s.1.drop (rdBytes s.1 m).2.1, s.2 || !((rdBytes s.1 m).2.2 == 0)))
def scN (s : ScS) : Nat × ScS := ((rdNum s.1).1, (s.1.drop (rdNum s.1).2.1, s.2 || !((rdNum s.1).2.2 == 0)))
def scG (s : ScS) : Bool × ScS :=
  match s.1 with
  | [] => (false, ([], true))
  | x :: r => if 1 < x.toNat then (false, (x :: r, true)) else (x.toNat == 1, (r, s.2))
def scE (l : List UInt8) : Ent × ScS :=
  (⟨(scB 65535 (l, false)).1, (scN (scB 65535 (l, false)).2).1, (scG (scN (scB 65535 (l, false)).2).2).1, (scB 33554432 (scG (scN (scB 65535 (l, false)).2).2).2).1⟩,
    (scB 33554432 (scG (scN (scB 65535 (l, false)).2).2).2).2)

theorem rdBytes_form (l : List UInt8) (m : Nat) : (∃ k n, rdBytes l m = (k, n, 0) ∧ k.length + 1 ≤ n ∧ n ≤ l.length ∧ k.length ≤ m) ∨ ∃ e, rdBytes l m = ([], 0, e) ∧ e ≠ 0 := by
  rcases rdLen_form l m 0 with ⟨v, n, h, _, hv, hl, h1, h2⟩ | ⟨e, h, he⟩
  · refine .inl ⟨_, _, rdBytes_ok l m v n h, ?_, by omega, ?_⟩ <;> rw [List.length_take, List.length_drop] <;> omega
  · exact .inr ⟨e, rdBytes_err l m e h (by omega), by omega⟩
theorem rdBytes_len (l : List UInt8) (m : Nat) : (rdBytes l m).2.1 ≤ l.length ∧ (rdBytes l m).1.length ≤ m ∧ (rdBytes l m).1.length ≤ l.length := by
  rcases rdBytes_form l m with ⟨k, n, h, h1, h2, h3⟩ | ⟨e, h, _⟩ <;> rw [h] <;> simp <;> omega
theorem rdNum_len (l : List UInt8) : (rdNum l).2.1 ≤ l.length ∧ (rdNum l).1 < 18446744073709551616 := by
  rcases rdNum_form l with ⟨v, n, h, h1, h2, _, h3⟩ | h | h <;> rw [h] <;> simp <;> omega
theorem rdBytes_back (k r : List UInt8) (m : Nat) (h : k.length ≤ m) (h64 : k.length < 18446744073709551616) : rdBytes (bytB k ++ r) m = (k, (bytB k).length, 0) := by
  have h1 : rdNum (bytB k ++ r) = (k.length, (num k.length).length, 0) := by unfold bytB; rw [List.append_assoc]; exact rdNum_num _ _ h64
  have h2 := rdLen_ok (bytB k ++ r) m 0 _ _ h1 (by omega) (by simp [bytB]; omega)
  rw [rdBytes_ok _ _ _ _ h2]
  simp [bytB, Nat.add_comm]
theorem rdFrame_back (l rest : List UInt8) (hl : l.length ≤ 67108864) : rdFrame (frame l ++ rest) = (l, (frame l).length, 0) := by
  have h1 : rdNum (frame l ++ rest) = (l.length, (num l.length).length, 0) := by
    unfold frame
    rw [List.append_assoc]
    exact rdNum_num _ _ (by omega)
  have h2 := rdLen_ok (frame l ++ rest) 67108864 4 _ _ h1 (by omega) (by simp [frame, four_length]; omega)
  have e1 : (frame l ++ rest).drop ((num l.length).length + 4) = l ++ rest := by
    unfold frame
    rw [List.append_assoc, List.append_assoc, ← List.drop_drop, List.drop_left, show (4 : Nat) = (four (crc l)).length from rfl, List.drop_left]
  have e2 : (frame l ++ rest).drop (num l.length).length = four (crc l) ++ (l ++ rest) := by
    unfold frame
    rw [List.append_assoc, List.append_assoc, List.drop_left]
  rw [rdFrame_ok _ _ _ h2 (by rw [e1, List.take_left, e2, unfour_four _ _ (crc_lt l)]), e1, List.take_left]
  simp [frame, four_length]
  omega

theorem scE_back (e : Ent) (r : List UInt8) (hk : e.key.length ≤ 65535) (hv : e.val.length ≤ 33554432) (hs : e.seq < 18446744073709551616) : scE (seB e ++ r) = (e, (r, false)) := by
  have h1 : scB 65535 (seB e ++ r, false) = (e.key, (num e.seq ++ (flagB e.gone :: bytB e.val) ++ r, false)) := by
    have : seB e ++ r = bytB e.key ++ (num e.seq ++ (flagB e.gone :: bytB e.val) ++ r) := by simp [seB]
    unfold scB
    simp only [this]
    rw [rdBytes_back _ _ _ hk (by omega), List.drop_left]
    rfl
  have h2 : scN (num e.seq ++ (flagB e.gone :: bytB e.val) ++ r, false) = (e.seq, (flagB e.gone :: (bytB e.val ++ r), false)) := by
    unfold scN
    simp only [List.append_assoc]
    rw [rdNum_num _ _ hs, List.drop_left]
    rfl
  have h3 : scG (flagB e.gone :: (bytB e.val ++ r), false) = (e.gone, (bytB e.val ++ r, false)) := by
    unfold scG
    cases e.gone <;> rfl
  have h4 : scB 33554432 (bytB e.val ++ r, false) = (e.val, (r, false)) := by
    unfold scB
    simp only
    rw [rdBytes_back _ _ _ hv (by omega), List.drop_left]
    rfl
  unfold scE
  simp only [h1, h2, h3, h4]
/-- An entry that is read takes at least what it weighs. -/
theorem scE_good (l : List UInt8) (h : (scE l).2.2 = false) : (scE l).1.key.length + (scE l).1.val.length + 4 + (scE l).2.1.length ≤ l.length ∧ (scE l).1.seq < 18446744073709551616 ∧ (scE l).1.key.length ≤ 65535 ∧ (scE l).1.val.length ≤ 33554432 := by
  unfold scE at h ⊢
  rcases rdBytes_form l 65535 with ⟨k, n, h1, a1, a2, a3⟩ | ⟨e, h1, he⟩
  · have e1 : scB 65535 (l, false) = (k, (l.drop n, false)) := by unfold scB; simp only [h1]; rfl
    rw [e1] at h ⊢
    rcases rdNum_form (l.drop n) with ⟨v, m, h2, b1, b2, b3, b4⟩ | h2 | h2
    · have e2 : scN (l.drop n, false) = (v, ((l.drop n).drop m, false)) := by unfold scN; simp only [h2]; rfl
      rw [e2] at h ⊢
      rw [List.length_drop] at b2
      cases hr : (l.drop n).drop m with
      | nil =>
        rw [hr] at h
        exfalso
        have e3 : scG (([] : List UInt8), false) = (false, ([], true)) := rfl
        rw [e3] at h
        simp [scB] at h
      | cons x r =>
        rw [hr] at h
        have hlen := congrArg List.length hr
        simp only [List.length_drop, List.length_cons] at hlen
        by_cases hx : 1 < x.toNat
        · exfalso
          have e3 : scG (x :: r, false) = (false, (x :: r, true)) := by unfold scG; simp only [if_pos hx]
          rw [e3] at h
          simp [scB] at h
        · have e3 : scG (x :: r, false) = (x.toNat == 1, (r, false)) := by unfold scG; simp only [if_neg hx]
          rw [e3] at h ⊢
          rcases rdBytes_form r 33554432 with ⟨u, q, h4, c1, c2, c3⟩ | ⟨e, h4, he⟩
          · have e4 : scB 33554432 (r, false) = (u, (r.drop q, false)) := by unfold scB; simp only [h4]; rfl
            rw [e4]
            simp only [List.length_drop]
            omega
          · exfalso
            simp [scB, h4, he] at h
    · exfalso
      simp [scN, h2] at h
      cases hr : l.drop n with
      | nil => simp [hr, scG, scB] at h
      | cons x r =>
        rw [hr] at h
        by_cases hx : 1 < x.toNat <;> simp [scG, scB, hx] at h
    · exfalso
      simp [scN, h2] at h
      cases hr : l.drop n with
      | nil => simp [hr, scG, scB] at h
      | cons x r =>
        rw [hr] at h
        by_cases hx : 1 < x.toNat <;> simp [scG, scB, hx] at h
  · exfalso
    have e1 : scB 65535 (l, false) = ([], (l, true)) := by unfold scB; simp only [h1]; simp [he]
    rw [e1] at h
    simp only [scN, Bool.true_or] at h
    cases hr : l.drop (rdNum l).2.1 with
    | nil => simp [hr, scG, scB] at h
    | cons x r =>
      rw [hr] at h
      by_cases hx : 1 < x.toNat <;> simp [scG, scB, hx] at h

/-! ### a block's entries -/
def scF : Nat → List UInt8 → Option (List Ent)
  | _, [] => some []
  | 0, _ :: _ => none
  | f + 1, x :: l => if (scE (x :: l)).2.2 = true then none else (scF f (scE (x :: l)).2.1).map (fun es => (scE (x :: l)).1 :: es)
def scA (l : List UInt8) : Option (List Ent) := scF l.length l
theorem scF_fuel : ∀ (f g : Nat) (l : List UInt8), l.length ≤ f → l.length ≤ g → scF f l = scF g l
  | 0, 0, _, _, _ => rfl
  | 0, g + 1, [], _, _ => rfl
  | 0, g + 1, x :: l, h, _ => by simp at h
  | f + 1, 0, [], _, _ => rfl
  | f + 1, 0, x :: l, _, h => by simp at h
  | f + 1, g + 1, [], _, _ => rfl
  | f + 1, g + 1, x :: l, h1, h2 => by
    simp only [scF]
    split
    · rfl
    · next hb =>
      have hb' : (scE (x :: l)).2.2 = false := by simpa using hb
      have hg := (scE_good (x :: l) hb').1
      rw [scF_fuel f g _ (by simp only [List.length_cons] at *; omega) (by simp only [List.length_cons] at *; omega)]
theorem scA_nil : scA [] = some [] := rfl
theorem scA_bad {l : List UInt8} (h0 : l ≠ []) (h : (scE l).2.2 = true) : scA l = none := by
  cases l with
  | nil => exact absurd rfl h0
  | cons x l => simp only [scA, List.length_cons, scF, if_pos h]
theorem scA_good {l : List UInt8} (h0 : l ≠ []) (h : (scE l).2.2 = false) : scA l = (scA (scE l).2.1).map (fun es => (scE l).1 :: es) := by
  cases l with
  | nil => exact absurd rfl h0
  | cons x l =>
    have hg := (scE_good (x :: l) h).1
    simp only [scA, List.length_cons, scF]
    rw [if_neg (by rw [h]; simp), scF_fuel l.length _ _ (by simp only [List.length_cons] at hg; omega) (Nat.le_refl _)]
theorem scA_pay : ∀ (es : List Ent), (∀ e ∈ es, e.key.length ≤ 65535 ∧ e.val.length ≤ 33554432 ∧ e.seq < 18446744073709551616) → scA (pay es) = some es
  | [], _ => rfl
  | e :: r, h => by
    obtain ⟨h1, h2, h3⟩ := h e (.head _)
    have hb := scE_back e (pay r) h1 h2 h3
    have hp : pay (e :: r) = seB e ++ pay r := rfl
    rw [hp]
    have h0 : seB e ++ pay r ≠ [] := by
      intro hn
      have := seB_len e
      have hl := congrArg List.length hn
      simp only [List.length_append, List.length_nil] at hl
      omega
    have hg : (scE (seB e ++ pay r)).2.2 = false := by rw [hb]
    rw [scA_good h0 hg, hb]
    simp only
    rw [scA_pay r (fun x hx => h x (.tail _ hx)), Option.map_some]
/-- What is read weighs no more than its bytes, thirtyone times. -/
theorem scF_room : ∀ (f : Nat) (l : List UInt8) (es : List Ent), scF f l = some es → wgt es ≤ 31 * l.length ∧ (∀ e ∈ es, e.seq < 18446744073709551616)
  | _, [], es, h => by
    have : es = [] := by
      cases f : (0 : Nat) <;> simp_all [scF]
    subst this
    exact ⟨by simp [wgt], by simp⟩
  | 0, x :: l, es, h => by simp [scF] at h
  | f + 1, x :: l, es, h => by
    simp only [scF] at h
    split at h
    · cases h
    · next hb =>
      have hb' : (scE (x :: l)).2.2 = false := by simpa using hb
      obtain ⟨hg, hq, _⟩ := scE_good (x :: l) hb'
      cases hr : scF f (scE (x :: l)).2.1 with
      | none => rw [hr] at h; cases h
      | some rs =>
        rw [hr] at h
        obtain rfl : (scE (x :: l)).1 :: rs = es := by simpa using h
        obtain ⟨i1, i2⟩ := scF_room f _ rs hr
        refine ⟨by simp only [wgt]; omega, fun e he => ?_⟩
        rcases List.mem_cons.1 he with rfl | he
        · exact hq
        · exact i2 e he
theorem scA_room {l : List UInt8} {es : List Ent} (h : scA l = some es) : wgt es ≤ 31 * l.length ∧ (∀ e ∈ es, e.seq < 18446744073709551616) := scF_room _ l es h
theorem scA_ne {l : List UInt8} {es : List Ent} (h : scA l = some es) (h0 : l ≠ []) : es ≠ [] := by
  rcases hb : (scE l).2.2 with _ | _
  · rw [scA_good h0 hb] at h
    cases hr : scA (scE l).2.1 with
    | none => rw [hr] at h; cases h
    | some rs => rw [hr] at h; rintro rfl; simp at h
  · rw [scA_bad h0 hb] at h; cases h
end Go.Proofs.YtagehnclkneolaaGreatDoor

/-
  Opening, told plainly: the blocks, the whole table; what is built is opened.
-/
namespace Go.Proofs.YtagehnclkneolaaGreatDoor

def unlow : List UInt8 → Nat
  | [] => 0
  | x :: r => x.toNat + 256 * unlow r
theorem unlow_low : ∀ (k v : Nat), v < 256 ^ k → unlow (lowB k v) = v
  | 0, v, h => by simp [unlow, lowB]; simp at h; omega
  | k + 1, v, h => by
    have h1 : v / 256 < 256 ^ k := by rw [Nat.pow_succ] at h; omega
    simp only [lowB, unlow, unlow_low k _ h1]
    rw [toNat_ofC _ (by omega)]
    omega
theorem unlow_lt : ∀ l : List UInt8, unlow l < 256 ^ l.length
  | [] => by simp [unlow]
  | x :: r => by
    have h1 := unlow_lt r
    have h2 := x.toNat_lt
    simp only [unlow, List.length_cons, Nat.pow_succ]
    omega
theorem right_left {a b : List Ent} (h : rightE (a ++ b) = true) : rightE a = true := by
  rw [rightE_at] at h ⊢
  intro k hk
  have h1 := h k (by simp; omega)
  rw [List.getElem_append_left hk] at h1
  refine ⟨h1.1, fun h0 => ?_⟩
  have h2 := h1.2 h0
  rwa [List.getElem_append_left (by omega)] at h2
/-- What is right so far, and right from its last one on, is right. -/
theorem right_tail {a b : List Ent} (ha : rightE a = true) : rightE (a ++ b) = rightE ((a ++ b).drop (a.length - 1)) := by
  rcases hd : rightE ((a ++ b).drop (a.length - 1)) with _ | _
  · rcases hr : rightE (a ++ b) with _ | _
    · rfl
    · exfalso
      have h1 : rightE ((a ++ b).drop (a.length - 1)) = true := by
        rw [rightE_at] at hr ⊢
        intro k hk
        have hk2 : a.length - 1 + k < (a ++ b).length := by rw [List.length_drop] at hk; omega
        have h2 := hr _ hk2
        rw [List.getElem_drop]
        refine ⟨h2.1, fun h0 => ?_⟩
        have h3 := h2.2 (by omega)
        rw [List.getElem_drop]
        simp only [show a.length - 1 + (k - 1) = a.length - 1 + k - 1 by omega]
        exact h3
      rw [hd] at h1
      cases h1
  · rw [rightE_at] at ha hd ⊢
    intro k hk
    rcases Nat.lt_or_ge k a.length with hlt | hge
    · have h1 := ha k hlt
      rw [List.getElem_append_left hlt]
      refine ⟨h1.1, fun h0 => ?_⟩
      rw [List.getElem_append_left (by omega)]
      exact h1.2 h0
    · have hk2 : k - (a.length - 1) < ((a ++ b).drop (a.length - 1)).length := by rw [List.length_drop]; omega
      have h1 := hd _ hk2
      rw [List.getElem_drop] at h1
      simp only [show a.length - 1 + (k - (a.length - 1)) = k by omega] at h1
      refine ⟨h1.1, fun h0 => ?_⟩
      rcases Nat.eq_zero_or_pos (k - (a.length - 1)) with hz | hp
      · have : a.length = 0 := by omega
        omega
      · have h2 := h1.2 hp
        rw [List.getElem_drop] at h2
        simp only [show a.length - 1 + (k - (a.length - 1) - 1) = k - 1 by omega] at h2
        exact h2

/-! ### blocks -/
def blkP (l : List UInt8) (L : List Ent) : Option (Nat × List Ent) :=
  if (rdFrame l).2.2 ≠ 0 ∨ (rdFrame l).1 = [] then none else
  match scA (rdFrame l).1 with
  | none => none
  | some es => if rightE (L ++ es) = true then some ((rdFrame l).2.1, es) else none
theorem blkP_some {l : List UInt8} {L es : List Ent} {n : Nat} (h : blkP l L = some (n, es)) :
    5 ≤ n ∧ n ≤ l.length ∧ es ≠ [] ∧ rightE (L ++ es) = true ∧ wgt es + 31 * 5 ≤ 31 * n ∧ (∀ e ∈ es, e.seq < 18446744073709551616) := by
  unfold blkP at h
  split at h
  · cases h
  · next h0 =>
    rcases rdFrame_form l with ⟨p, m, hf, h1, h2, h3, h4⟩ | ⟨e, hf, he⟩
    · rw [hf] at h h0
      simp only at h h0
      split at h
      · cases h
      · next es' hs =>
        split at h
        · next hr =>
          obtain ⟨rfl, rfl⟩ : m = n ∧ es' = es := by simpa using h
          obtain ⟨r1, r2⟩ := scA_room hs
          exact ⟨h1, h2, scA_ne hs (fun hp => h0 (.inr hp)), hr, by omega, r2⟩
        · cases h
    · rw [hf] at h0
      exact absurd (.inl (by simp only; omega)) h0
def opF : Nat → List UInt8 → Nat → List Ent → List TBk → Nat ⊕ (List Ent × List TBk)
  | _, [], _, L, bks => .inr (L, bks)
  | 0, _ :: _, at_, _, _ => .inl at_
  | f + 1, x :: r, at_, L, bks =>
    match blkP (x :: r) L with
    | none => .inl at_
    | some (n, es) => opF f ((x :: r).drop n) (at_ + n) (L ++ es) (bks ++ [⟨at_, n, hdK es⟩])
def opA (r : List UInt8) (at_ : Nat) (L : List Ent) (bks : List TBk) : Nat ⊕ (List Ent × List TBk) := opF r.length r at_ L bks
theorem opF_fuel : ∀ (f g : Nat) (r : List UInt8) (at_ : Nat) (L : List Ent) (bks : List TBk), r.length ≤ f → r.length ≤ g → opF f r at_ L bks = opF g r at_ L bks
  | 0, 0, _, _, _, _, _, _ => rfl
  | 0, g + 1, [], _, _, _, _, _ => rfl
  | 0, g + 1, x :: l, _, _, _, h, _ => by simp at h
  | f + 1, 0, [], _, _, _, _, _ => rfl
  | f + 1, 0, x :: l, _, _, _, _, h => by simp at h
  | f + 1, g + 1, [], _, _, _, _, _ => rfl
  | f + 1, g + 1, x :: l, at_, L, bks, h1, h2 => by
    simp only [opF]
    split
    · rfl
    · next n es hb =>
      have hn := blkP_some hb
      exact opF_fuel f g _ _ _ _ (by rw [List.length_drop]; simp only [List.length_cons] at *; omega) (by rw [List.length_drop]; simp only [List.length_cons] at *; omega)
theorem opA_nil (at_ : Nat) (L : List Ent) (bks : List TBk) : opA [] at_ L bks = .inr (L, bks) := rfl
theorem opA_none {r : List UInt8} {at_ : Nat} {L : List Ent} {bks : List TBk} (h0 : r ≠ []) (h : blkP r L = none) : opA r at_ L bks = .inl at_ := by
  cases r with
  | nil => exact absurd rfl h0
  | cons x l => simp only [opA, List.length_cons, opF, h]
theorem opA_some {r : List UInt8} {at_ n : Nat} {L es : List Ent} {bks : List TBk} (h0 : r ≠ []) (h : blkP r L = some (n, es)) : opA r at_ L bks = opA (r.drop n) (at_ + n) (L ++ es) (bks ++ [⟨at_, n, hdK es⟩]) := by
  cases r with
  | nil => exact absurd rfl h0
  | cons x l =>
    have hn := blkP_some h
    simp only [opA, List.length_cons, opF, h]
    exact opF_fuel _ _ _ _ _ _ (by rw [List.length_drop]; simp only [List.length_cons] at *; omega) (Nat.le_refl _)
/-- Blocks that are laid. -/
structure LaidC (c : List Ent) : Prop where
  ne : c ≠ []
  pay : (pay c).length ≤ 67108864
  e : ∀ e ∈ c, e.key.length ≤ 65535 ∧ e.val.length ≤ 33554432 ∧ e.seq < 18446744073709551616
theorem pay_ne {c : List Ent} (h : c ≠ []) : pay c ≠ [] := by
  cases c with
  | nil => exact absurd rfl h
  | cons e r =>
    intro hn
    have := seB_len e
    have hl := congrArg List.length hn
    simp only [pay, List.length_append, List.length_nil] at hl
    omega
theorem blkP_back {c L : List Ent} (r : List UInt8) (h : LaidC c) (hr : rightE (L ++ c) = true) : blkP (frame (pay c) ++ r) L = some ((frame (pay c)).length, c) := by
  have hf := rdFrame_back (pay c) r h.pay
  unfold blkP
  rw [hf]
  simp only
  rw [if_neg (by simp [pay_ne h.ne]), scA_pay c h.e]
  simp only
  rw [if_pos hr]
theorem opA_back : ∀ (cs : List (List Ent)) (a : Nat) (L : List Ent) (bks : List TBk), (∀ c ∈ cs, LaidC c) → rightE (L ++ cs.flatten) = true → opA (tabB cs) a L bks = .inr (L ++ cs.flatten, bks ++ bkOf a cs)
  | [], a, L, bks, _, _ => by simp [tabB, bkOf, opA_nil]
  | c :: r, a, L, bks, h, hr => by
    have hc := h c (.head _)
    rw [List.flatten_cons, ← List.append_assoc] at hr
    have hb := blkP_back (L := L) (tabB r) hc (right_left hr)
    have h0 : frame (pay c) ++ tabB r ≠ [] := by
      intro hn
      have hl := congrArg List.length hn
      have h2 := (frame_length (pay c) (by have := hc.pay; omega)).2
      simp only [List.length_append, List.length_nil] at hl
      omega
    have ht : tabB (c :: r) = frame (pay c) ++ tabB r := rfl
    rw [ht, opA_some h0 hb, List.drop_left, opA_back r _ _ _ (fun x hx => h x (.tail _ hx)) hr]
    simp [bkOf, List.append_assoc]

/-! ### the table -/
def fI (f : List UInt8) : Nat := unlow (f.take 8)
def fF (f : List UInt8) : Nat := unlow ((f.drop 8).take 8)
def fC (f : List UInt8) : Nat := unlow ((f.drop 16).take 8)
def ftOf (b : List UInt8) : List UInt8 := b.drop (b.length - 28)
def opnP (b : List UInt8) : (Nat × Nat) ⊕ (List Ent × List TBk) :=
  if b.length < 28 then .inl (0, 11) else
  if crc ((ftOf b).take 24) ≠ unfour ((ftOf b).drop 24) then .inl (b.length - 28, 13) else
  if fF (ftOf b) ≤ fI (ftOf b) ∨ b.length - 28 ≤ fF (ftOf b) then .inl (b.length - 28, 14) else
  match opA (b.take (fI (ftOf b))) 0 [] [] with
  | .inl at_ => .inl (at_, 14)
  | .inr (L, bks) =>
    if (b.drop (fI (ftOf b))).take (fF (ftOf b) - fI (ftOf b)) ≠ frame (idxR bks) then .inl (fI (ftOf b), 14) else
    if (b.drop (fF (ftOf b))).take (b.length - 28 - fF (ftOf b)) ≠ frame (filB L) then .inl (fF (ftOf b), 14) else
    if fC (ftOf b) ≠ L.length then .inl (b.length - 28, 14) else .inr (L, bks)

theorem foot_parts (i f n : Nat) (hi : i < 18446744073709551616) (hf : f < 18446744073709551616) (hn : n < 18446744073709551616) :
    (footB i f n).take 24 = footL i f n ∧ (footB i f n).drop 24 = four (crc (footL i f n)) ∧ fI (footB i f n) = i ∧ fF (footB i f n) = f ∧ fC (footB i f n) = n := by
  have l1 := lowB_len 8 i
  have l2 := lowB_len 8 f
  have l3 := lowB_len 8 n
  have hl : (footL i f n).length = 24 := by simp [footL, lowB_len]
  have e0 : footB i f n = lowB 8 i ++ (lowB 8 f ++ (lowB 8 n ++ four (crc (footL i f n)))) := by simp [footB, footL]
  refine ⟨?_, ?_, ?_, ?_, ?_⟩
  · unfold footB; rw [← hl, List.take_left]
  · unfold footB; rw [← hl, List.drop_left]
  · unfold fI; rw [e0]
    have : (lowB 8 i ++ (lowB 8 f ++ (lowB 8 n ++ four (crc (footL i f n))))).take 8 = lowB 8 i := by
      have h := @List.take_left _ (lowB 8 i) (lowB 8 f ++ (lowB 8 n ++ four (crc (footL i f n))))
      rwa [l1] at h
    rw [this, unlow_low _ _ (by simpa using hi)]
  · unfold fF; rw [e0]
    have h1 : (lowB 8 i ++ (lowB 8 f ++ (lowB 8 n ++ four (crc (footL i f n))))).drop 8 = lowB 8 f ++ (lowB 8 n ++ four (crc (footL i f n))) := by
      have h := @List.drop_left _ (lowB 8 i) (lowB 8 f ++ (lowB 8 n ++ four (crc (footL i f n))))
      rwa [l1] at h
    have h2 : (lowB 8 f ++ (lowB 8 n ++ four (crc (footL i f n)))).take 8 = lowB 8 f := by
      have h := @List.take_left _ (lowB 8 f) (lowB 8 n ++ four (crc (footL i f n)))
      rwa [l2] at h
    rw [h1, h2, unlow_low _ _ (by simpa using hf)]
  · unfold fC; rw [e0]
    have h1 : (lowB 8 i ++ (lowB 8 f ++ (lowB 8 n ++ four (crc (footL i f n))))).drop 16 = lowB 8 n ++ four (crc (footL i f n)) := by
      have h := @List.drop_left _ (lowB 8 i ++ lowB 8 f) (lowB 8 n ++ four (crc (footL i f n)))
      rwa [List.length_append, l1, l2, List.append_assoc] at h
    have h2 : (lowB 8 n ++ four (crc (footL i f n))).take 8 = lowB 8 n := by
      have h := @List.take_left _ (lowB 8 n) (four (crc (footL i f n)))
      rwa [l3] at h
    rw [h1, h2, unlow_low _ _ (by simpa using hn)]

/-- WHAT IS BUILT IS OPENED. -/
theorem opnP_back {block : Nat} {es : List Ent} (hs : ShL es) (hr : rightE es = true) (hc : ∀ c ∈ cutE block [] es, LaidC c) : opnP (tblB block es) = .inr (es, bkOf 0 (cutE block [] es)) := by
  obtain ⟨cs, hcs⟩ : ∃ cs, cutE block [] es = cs := ⟨_, rfl⟩
  have hfl : cs.flatten = es := by rw [← hcs, cutE_flat]; rfl
  rw [hcs] at hc ⊢
  have hw := hs.2
  have htl := tab_room cs (fun c h => (hc c h).ne) (by rw [hfl]; exact hs)
  have hil := idx_room cs 0 (fun c h => (hc c h).ne) (by rw [hfl]; exact hs) (by rw [hfl]; omega)
  rw [hfl] at htl hil
  have hfb := filB_len hs
  have hfi := (frame_length (idxB 0 cs) (by omega))
  have hff := (frame_length (filB es) (by omega))
  obtain ⟨T, hT⟩ : ∃ T, tabB cs = T := ⟨_, rfl⟩
  obtain ⟨I, hI⟩ : ∃ I, frame (idxB 0 cs) = I := ⟨_, rfl⟩
  obtain ⟨G, hG⟩ : ∃ G, frame (filB es) = G := ⟨_, rfl⟩
  have ht : tblB block es = T ++ (I ++ (G ++ footB T.length (T.length + I.length) es.length)) := by unfold tblB endB; rw [hcs, hT, hI, hG]
  rw [ht]
  rw [hT] at htl
  rw [hI] at hfi
  rw [hG] at hff
  have hel := hs.len
  obtain ⟨p1, p2, p3, p4, p5⟩ := foot_parts T.length (T.length + I.length) es.length (by omega) (by omega) (by omega)
  have hft := footB_len T.length (T.length + I.length) es.length
  obtain ⟨B, hB⟩ : ∃ B, T ++ (I ++ (G ++ footB T.length (T.length + I.length) es.length)) = B := ⟨_, rfl⟩
  have hBl : B.length = T.length + I.length + G.length + 28 := by rw [← hB]; simp only [List.length_append, hft]; omega
  have hFt : ftOf B = footB T.length (T.length + I.length) es.length := by
    unfold ftOf
    have h := @List.drop_left _ (T ++ (I ++ G)) (footB T.length (T.length + I.length) es.length)
    have e : T ++ (I ++ G) ++ footB T.length (T.length + I.length) es.length = B := by rw [← hB]; simp [List.append_assoc]
    rw [e] at h
    rw [show B.length - 28 = (T ++ (I ++ G)).length by rw [hBl]; simp only [List.length_append]; omega]
    exact h
  rw [hB]
  unfold opnP
  rw [if_neg (by omega), hFt, p1, p2, p3, p4, p5]
  have huf : unfour (four (crc (footL T.length (T.length + I.length) es.length))) = crc (footL T.length (T.length + I.length) es.length) := by
    have := unfour_four (crc (footL T.length (T.length + I.length) es.length)) [] (crc_lt _)
    rwa [List.append_nil] at this
  rw [if_neg (by rw [huf]; simp), if_neg (by omega)]
  have hTk : B.take T.length = T := by rw [← hB]; exact List.take_left
  have hop := opA_back cs 0 [] [] hc (by rw [List.nil_append, hfl]; exact hr)
  rw [hT, hfl] at hop
  simp only [List.nil_append] at hop
  rw [hTk, hop]
  simp only
  have e1 : (B.drop T.length).take (T.length + I.length - T.length) = I := by
    rw [← hB, List.drop_left, Nat.add_sub_cancel_left]; exact List.take_left
  have e2 : (B.drop (T.length + I.length)).take (B.length - 28 - (T.length + I.length)) = G := by
    have h := @List.drop_left _ (T ++ I) (G ++ footB T.length (T.length + I.length) es.length)
    have e : T ++ I ++ (G ++ footB T.length (T.length + I.length) es.length) = B := by rw [← hB]; simp [List.append_assoc]
    rw [e, List.length_append] at h
    rw [h, hBl, show T.length + I.length + G.length + 28 - 28 - (T.length + I.length) = G.length by omega]
    exact List.take_left
  rw [e1, e2, idxR_bk, hI, hG, if_neg (by simp), if_neg (by simp), if_neg (by simp)]
end Go.Proofs.YtagehnclkneolaaGreatDoor

/-
  The walks over a scan: pass, bytes, number, flag.
-/
namespace Go.Proofs.YtagehnclkneolaaGreatDoor
open Go.RowKit

theorem slByte : SlT 22 5 1 1 :=
  ⟨Tryz.underlying22, by simp [Program.elem, Tryz.underlying22], fun _ => by kernel_rfl, ⟨.int .u8 0, by kernel_rfl, rfl⟩, by omega, by omega⟩

set_option maxHeartbeats 400000 in
theorem clone_own (v : Value) (l : List UInt8) (B : Nat) (w : World) (h : Rd w B v l) (hB : B ≤ w.heap.size) :
    Calls Tryz.prog 110 #[v] w fun e w' => ∃ v', e = .returned v' ∧ Own w' w.heap.size v' l ∧ Below w.heap.size w w' := by
  have HR := Lib.hid h
  obtain ⟨p, cap, rfl, hlc, ⟨hl47, hcm, hcn⟩, hat⟩ := h
  have q22 : ∀ (w : World) (a : Option Addr) (n c n' c' : Nat), (binOp .eql 22 (.slice a n c) (.slice none n' c')).run Tryz.prog w = .ok (.bool a.isNone) w := fun w a n c n' c' => Lib.run_eql_slice_nil w _ _ a n c n' c' Tryz.underlying22
  cases p with
  | none =>
    have hm : l = [] := by
      apply List.eq_nil_of_length_eq_zero
      rcases Nat.eq_zero_or_pos l.length with h0 | h0
      · exact h0
      · obtain ⟨b, off, e, _⟩ := hat h0
        cases e
    subst hm
    clear hat hcn
    go_enter Tryz.func110, Tryz.ntmps110
    go_wp2_with fail
    go_ret
    exact ⟨_, rfl, own_nil _ _, Below.refl _ _⟩
  | some ad =>
    clear hat hcn
    go_enter Tryz.func110, Tryz.ntmps110
    go_wp2_with (at_builtin; refine wpList_append_rd rfl _ _ rfl w.heap.size B _ _ [] l rfl (own_new0' w) rfl (HR.out.under (below_alloc w _) hB) (by simp; omega) (by simp) ?_; intro v1 w1 hown1 hb1)
    rw [List.nil_append] at hown1
    go_ret
    exact ⟨v1, rfl, hown1, (below_alloc w _).trans hb1⟩

theorem ret3v {v : Value} {N E : Int} {r : List UInt8 × Nat × Nat} {p : List UInt8} {n e : Nat} (h : r = (p, n, e)) (hN : N = (n : Int)) (hE : E = (e : Int)) :
    Ending.returned (.tuple #[v, .int .i64 N, .int .i64 E]) = .returned (.tuple #[v, .int .i64 (r.2.1 : Int), .int .i64 (r.2.2 : Int)]) := by rw [h, hN, hE]

set_option maxRecDepth 100000 in
set_option maxHeartbeats 1000000 in
theorem readBytes_own (v : Value) (l : List UInt8) (M B : Nat) (w : World) (h : Rd w B v l) (hB : B ≤ w.heap.size) (hm1 : 0 < M) (hm2 : M ≤ 67108864) :
    Calls Tryz.prog 120 #[v, .int .i64 (M : Int)] w fun e w' =>
      ∃ v', e = .returned (.tuple #[v', .int .i64 ((rdBytes l M).2.1 : Int), .int .i64 ((rdBytes l M).2.2 : Int)]) ∧ Own w' w.heap.size v' (rdBytes l M).1 ∧ Below w.heap.size w w' := by
  have HR := Lib.hid h
  obtain ⟨p, cap, rfl, hlc, hl47, hcm, hat⟩ := h.form
  clear h hat
  go_enter Tryz.func120, Tryz.ntmps120
  go_wp2_with fail
  refine (readLength_any _ l M 0 B w HR.out (by omega) (by omega)).mono ?_
  rintro e w1 ⟨rfl, rfl⟩
  rcases rdLen_form l M 0 with ⟨n, k, hr, hnum, hv, hl, h1, h2⟩ | ⟨e, hr, he⟩
  · rw [hr]
    have HE := Lib.hid (rdBytes_ok l M n k hr)
    obtain ⟨p2, cap2, hcut, hsl⟩ := cut_run (n := k) (m := n) HR.out (by omega)
    have HC := Lib.hid hcut
    clear hr hnum hcut
    go_wp2_with fail
    refine (clone_own _ _ B w HC.out hB).mono ?_
    rintro e w2 ⟨v2, rfl, hrd2, hb2⟩
    go_wp2_with fail
    go_ret3
    exact ⟨_, ret3v HE.out (by omega) rfl, by rw [HE.out]; exact hrd2, hb2⟩
  · rw [hr]
    have HE := Lib.hid (rdBytes_err l M e hr (by omega))
    have e0 : ((e : Int) != 0) = true := by rw [bne_iff_ne]; omega
    clear hr he
    go_wp2_with fail
    go_ret3
    exact ⟨_, ret3v HE.out rfl rfl, by rw [HE.out]; exact own_nil _ _, Below.refl _ _⟩

/-- A scan in memory: its block g, the slice of its rest in blocks of F. -/
structure ScM (w : World) (F : Nat → Prop) (g : Nat) (rv : Value) (s : ScS) : Prop where
  blk : w.heap[g]? = some (.cells #[rv, .bool s.2] 179 (0, 0))
  by_ : By w F rv s.1
  out : ¬ F g
theorem ScM.below {w w' : World} {F : Nat → Prop} {g : Nat} {rv : Value} {s : ScS} (h : ScM w F g rv s) (hb : Below w.heap.size w w') : ScM w' F g rv s := ⟨(hb.block _ (block_lt h.blk)).trans h.blk, h.by_.below hb, h.out⟩
theorem ScM.step {w w' : World} {F S : Nat → Prop} {g : Nat} {rv : Value} {s : ScS} (h : ScM w F g rv s) (hf : Fr S w w') (hg : ¬ S g) (hd : ∀ k, F k → ¬ S k) : ScM w' F g rv s := ⟨hf.keep h.blk hg, h.by_.step hf (fun k _ hk => hd k hk), h.out⟩

set_option maxRecDepth 100000 in
set_option maxHeartbeats 1000000 in
theorem scan_pass (w : World) (F : Nat → Prop) (g : Nat) (rv : Value) (rest : List UInt8) (bad is : Bool) (n : Nat) (h : ScM w F g rv (rest, bad)) (hn : n ≤ rest.length) :
    Calls Tryz.prog 121 #[.pointer (some ⟨g, 0, none⟩), .int .i64 (n : Int), .bool is] w fun x w' => x = .returned (.tuple #[]) ∧ ∃ rv', ScM w' F g rv' (rest.drop n, bad || !is) ∧ Fr (fun k => k = g) w w' := by
  obtain ⟨v', hcl, hrun⟩ := slByte.drop (n := rest.length) (k := n) h.by_ (by rw [bs_length, Nat.mul_one]) hn
  obtain ⟨q', c', rfl, _⟩ := hcl.form
  have hdr : (bs rest).drop (n * 1) = bs (rest.drop n) := by simp [bs]
  rw [hdr] at hcl
  have HBy : Hid (By w F (.slice q' (rest.length - n) c') (rest.drop n)) := Lib.hid (by unfold By; rw [List.length_drop]; exact hcl)
  obtain ⟨q, c, rfl, _, hl47, _, _⟩ := h.by_.form
  have hz := h.blk
  have HO := Lib.hid h.out
  have z0 := cell_of (i := 0) hz rfl
  have z1 := cell_of (i := 1) hz rfl
  have f0 := frozen_of (i := 0) hz
  have f1 := frozen_of (i := 1) hz
  have HZ := Lib.hid hz
  clear h hz hcl hdr
  have HEnd : ∀ b : Bool, ScM ((w.setCell ⟨g, 0, none⟩ (.slice q' (rest.length - n) c')).setCell ⟨g, 1, none⟩ (.bool b)) F g (.slice q' (rest.length - n) c') (rest.drop n, b) ∧ Fr (fun k => k = g) w ((w.setCell ⟨g, 0, none⟩ (.slice q' (rest.length - n) c')).setCell ⟨g, 1, none⟩ (.bool b)) := fun b => by
    have hfr : Fr (fun k => k = g) w ((w.setCell ⟨g, 0, none⟩ (.slice q' (rest.length - n) c')).setCell ⟨g, 1, none⟩ (.bool b)) := Fr.setCell_ (S := fun k => k = g) (Fr.setCell_ (S := fun k => k = g) (Fr.refl _ w) (p := ⟨g, 0, none⟩) rfl _) (p := ⟨g, 1, none⟩) rfl _
    refine ⟨⟨?_, HBy.out.step hfr (fun k _ hF e => HO.out (e ▸ hF)), HO.out⟩, hfr⟩
    have h1 := setCell_same (off := 1) (setCell_same (off := 0) HZ.out (.slice q' (rest.length - n) c')) (.bool b)
    simpa using h1
  have HEn := Lib.hid HEnd
  clear HEnd
  cases bad
  all_goals
    cases is
    all_goals
      go_enter Tryz.func121, Tryz.ntmps121
      go_wp2_with fail
      go_end0
      exact ⟨rfl, ⟨_, (HEn.out _).1⟩, (HEn.out _).2⟩

set_option maxRecDepth 100000 in
set_option maxHeartbeats 1000000 in
theorem scan_bytes (w : World) (F : Nat → Prop) (g : Nat) (rv : Value) (s : ScS) (M : Nat) (h : ScM w F g rv s) (hm1 : 0 < M) (hm2 : M ≤ 67108864) :
    Calls Tryz.prog 111 #[.pointer (some ⟨g, 0, none⟩), .int .i64 (M : Int)] w fun x w' => ∃ v' rv', x = .returned v' ∧ Own w' w.heap.size v' (scB M s).1 ∧ ScM w' F g rv' (scB M s).2 ∧ Fr (fun k => k = g) w w' := by
  obtain ⟨rest, bad⟩ := s
  have HM := Lib.hid h
  have z0 := cell_of (i := 0) h.blk rfl
  have hgl := block_lt h.blk
  obtain ⟨hl1, hl2, hl3⟩ := rdBytes_len rest M
  have HC := Lib.hid (readBytes_own rv rest M w.heap.size w h.by_.rd (Nat.le_refl _) hm1 hm2)
  have HR1 : Hid ((scB M (rest, bad)).1 = (rdBytes rest M).1) := Lib.hid rfl
  have HR2 : Hid ((scB M (rest, bad)).2 = (rest.drop (rdBytes rest M).2.1, bad || !((rdBytes rest M).2.2 == 0))) := Lib.hid rfl
  generalize scB M (rest, bad) = sb at *
  obtain ⟨n, hn⟩ : ∃ n, (rdBytes rest M).2.1 = n := ⟨_, rfl⟩
  obtain ⟨e, he⟩ : ∃ e, (rdBytes rest M).2.2 = e := ⟨_, rfl⟩
  rw [hn, he] at HC HR2
  rw [hn] at hl1
  generalize (rdBytes rest M).1 = k at *
  have HP := Lib.hid (fun (V : World) (hV : Below w.heap.size w V) (is : Bool) => scan_pass V F g rv rest bad is n (HM.out.below hV) hl1)
  clear h hn he
  rcases Nat.eq_zero_or_pos e with h0 | h0
  · subst h0
    have HR3 : Hid (sb.2 = (rest.drop n, bad || !true)) := Lib.hid (by rw [HR2.out]; rfl)
    go_enter Tryz.func111, Tryz.ntmps111
    go_wp2_with fail
    refine HC.out.mono ?_
    rintro x w1 ⟨v1, rfl, hown1, hb1⟩
    have HO1 := Lib.hid hown1
    have HB1 := Lib.hid hb1
    have HP1 := Lib.hid (HP.out w1 hb1 true)
    clear hown1 hb1 HC HP z0
    go_wp2_with fail
    refine HP1.out.mono ?_
    rintro x w2 ⟨rfl, rv2, hm2', hf2⟩
    have HM2 := Lib.hid hm2'
    have HF2 := Lib.hid hf2
    clear hm2' hf2
    go_wp2_with fail
    go_ret
    refine ⟨v1, rv2, rfl, ?_, by rw [HR3.out]; exact HM2.out, (Fr.of_new HB1.out _).then HF2.out⟩
    rw [HR1.out]
    exact HO1.out.keep fun j hj => HF2.out.block j (World.ownsRow.lt HO1.out j hj).2 (fun e => by have := (World.ownsRow.lt HO1.out j hj).1; omega)
  · have d1 : ((e : Int) == 0) = false := by simp; omega
    have HR3 : Hid (sb.2 = (rest.drop n, bad || !false)) := Lib.hid (by rw [HR2.out]; simp; omega)
    clear h0
    go_enter Tryz.func111, Tryz.ntmps111
    go_wp2_with fail
    refine HC.out.mono ?_
    rintro x w1 ⟨v1, rfl, hown1, hb1⟩
    have HO1 := Lib.hid hown1
    have HB1 := Lib.hid hb1
    have HP1 := Lib.hid (HP.out w1 hb1 false)
    clear hown1 hb1 HC HP z0
    go_wp2_with fail
    refine HP1.out.mono ?_
    rintro x w2 ⟨rfl, rv2, hm2', hf2⟩
    have HM2 := Lib.hid hm2'
    have HF2 := Lib.hid hf2
    clear hm2' hf2
    go_wp2_with fail
    go_ret
    refine ⟨v1, rv2, rfl, ?_, by rw [HR3.out]; exact HM2.out, (Fr.of_new HB1.out _).then HF2.out⟩
    rw [HR1.out]
    exact HO1.out.keep fun j hj => HF2.out.block j (World.ownsRow.lt HO1.out j hj).2 (fun e => by have := (World.ownsRow.lt HO1.out j hj).1; omega)

set_option maxRecDepth 100000 in
set_option maxHeartbeats 1000000 in
theorem scan_number (w : World) (F : Nat → Prop) (g : Nat) (rv : Value) (s : ScS) (h : ScM w F g rv s) :
    Calls Tryz.prog 112 #[.pointer (some ⟨g, 0, none⟩)] w fun x w' => ∃ rv', x = .returned (.int .u64 ((scN s).1 : Int)) ∧ ScM w' F g rv' (scN s).2 ∧ Fr (fun k => k = g) w w' := by
  obtain ⟨rest, bad⟩ := s
  have HM := Lib.hid h
  have z0 := cell_of (i := 0) h.blk rfl
  obtain ⟨hl1, hl2⟩ := rdNum_len rest
  have HC := Lib.hid (readNumber_any rv rest w.heap.size w h.by_.rd)
  have HR1 : Hid ((scN (rest, bad)).1 = (rdNum rest).1) := Lib.hid rfl
  have HR2 : Hid ((scN (rest, bad)).2 = (rest.drop (rdNum rest).2.1, bad || !((rdNum rest).2.2 == 0))) := Lib.hid rfl
  generalize scN (rest, bad) = sb at *
  obtain ⟨n, hn⟩ : ∃ n, (rdNum rest).2.1 = n := ⟨_, rfl⟩
  obtain ⟨e, he⟩ : ∃ e, (rdNum rest).2.2 = e := ⟨_, rfl⟩
  rw [hn, he] at HC HR2
  rw [hn] at hl1
  generalize (rdNum rest).1 = k at *
  have HP := Lib.hid (fun (is : Bool) => scan_pass w F g rv rest bad is n HM.out hl1)
  clear h hn he
  rcases Nat.eq_zero_or_pos e with h0 | h0
  · subst h0
    have HR3 : Hid (sb.2 = (rest.drop n, bad || !true)) := Lib.hid (by rw [HR2.out]; rfl)
    have HP1 := Lib.hid (HP.out true)
    go_enter Tryz.func112, Tryz.ntmps112
    go_wp2_with fail
    refine HC.out.mono ?_
    rintro x w1 ⟨rfl, rfl⟩
    clear HC HP z0
    go_wp2_with fail
    refine HP1.out.mono ?_
    rintro x w2 ⟨rfl, rv2, hm2', hf2⟩
    have HM2 := Lib.hid hm2'
    have HF2 := Lib.hid hf2
    clear hm2' hf2
    go_wp2_with fail
    go_ret
    exact ⟨rv2, by rw [HR1.out]; rfl, by rw [HR3.out]; exact HM2.out, HF2.out⟩
  · have d1 : ((e : Int) == 0) = false := by simp; omega
    have HR3 : Hid (sb.2 = (rest.drop n, bad || !false)) := Lib.hid (by rw [HR2.out]; simp; omega)
    have HP1 := Lib.hid (HP.out false)
    clear h0
    go_enter Tryz.func112, Tryz.ntmps112
    go_wp2_with fail
    refine HC.out.mono ?_
    rintro x w1 ⟨rfl, rfl⟩
    clear HC HP z0
    go_wp2_with fail
    refine HP1.out.mono ?_
    rintro x w2 ⟨rfl, rv2, hm2', hf2⟩
    have HM2 := Lib.hid hm2'
    have HF2 := Lib.hid hf2
    clear hm2' hf2
    go_wp2_with fail
    go_ret
    exact ⟨rv2, by rw [HR1.out]; rfl, by rw [HR3.out]; exact HM2.out, HF2.out⟩

set_option maxRecDepth 100000 in
set_option maxHeartbeats 1000000 in
theorem scan_flag (w : World) (F : Nat → Prop) (g : Nat) (rv : Value) (s : ScS) (h : ScM w F g rv s) :
    Calls Tryz.prog 113 #[.pointer (some ⟨g, 0, none⟩)] w fun x w' => ∃ rv', x = .returned (.bool (scG s).1) ∧ ScM w' F g rv' (scG s).2 ∧ Fr (fun k => k = g) w w' := by
  obtain ⟨rest, bad⟩ := s
  have HM := Lib.hid h
  have z0 := cell_of (i := 0) h.blk rfl
  cases rest with
  | nil =>
    have HP := Lib.hid (scan_pass w F g rv [] bad false 0 h (by simp))
    have HR : Hid (scG ([], bad) = (false, ([], bad || !false))) := Lib.hid (by simp [scG])
    obtain ⟨q, c, rfl, _, _, _, _⟩ := h.by_.form
    clear h
    go_enter Tryz.func113, Tryz.ntmps113
    go_wp2_with fail
    refine HP.out.mono ?_
    rintro x w2 ⟨rfl, rv2, hm2', hf2⟩
    have HM2 := Lib.hid hm2'
    have HF2 := Lib.hid hf2
    clear hm2' hf2
    go_wp2_with fail
    go_ret
    exact ⟨rv2, by rw [HR.out]; rfl, by rw [HR.out]; exact HM2.out, HF2.out⟩
  | cons y r =>
    obtain ⟨q, c, rfl, hlc, _, _, _⟩ := h.by_.form
    obtain ⟨b0, off, rfl, _, _, hy⟩ := Cl.at_ (j := 0) h.by_ (x := .int .u8 (y.toNat : Int)) rfl
    rw [Nat.add_zero] at hy
    have hlen : (0 : Int) < ((y :: r).length : Int) := by simp
    have hle : (((y :: r).length : Int) == 0) = false := by rw [beq_eq_false_iff_ne]; simp; omega
    have hlen2 : (y :: r).length = r.length + 1 := rfl
    by_cases hx : 1 < y.toNat
    · have d1 : decide ((1 : Int) < (y.toNat : Int)) = true := decide_eq_true (by omega)
      have d2 : decide (1 < y.toNat) = true := decide_eq_true hx
      have HP := Lib.hid (scan_pass w F g _ (y :: r) bad false 0 h (by simp))
      have HR : Hid (scG (y :: r, bad) = (false, (y :: r, bad || !false))) := Lib.hid (by simp [scG, hx])
      clear h hx
      generalize (y :: r).length = nl at *
      go_enter Tryz.func113, Tryz.ntmps113
      go_wp2_with fail
      refine HP.out.mono ?_
      rintro x w2 ⟨rfl, rv2, hm2', hf2⟩
      have HM2 := Lib.hid hm2'
      have HF2 := Lib.hid hf2
      clear hm2' hf2
      go_wp2_with fail
      go_ret
      exact ⟨rv2, by rw [HR.out]; rfl, by rw [HR.out]; exact HM2.out, HF2.out⟩
    · have d1 : decide ((1 : Int) < (y.toNat : Int)) = false := decide_eq_false (by omega)
      have d2 : decide (1 < y.toNat) = false := decide_eq_false hx
      have HP := Lib.hid (scan_pass w F g _ (y :: r) bad true 1 h (by simp))
      have HR : Hid (scG (y :: r, bad) = (y.toNat == 1, (r, bad || !true))) := Lib.hid (by simp [scG, hx])
      clear h hx
      generalize (y :: r).length = nl at *
      have hyy : y.toNat = 0 ∨ y.toNat = 1 := by have := of_decide_eq_false d2; omega
      generalize y.toNat = yn at *
      rcases hyy with rfl | rfl
      all_goals
        clear d1 d2
        go_enter Tryz.func113, Tryz.ntmps113
        go_wp2_with fail
        refine HP.out.mono ?_
        rintro x w2 ⟨rfl, rv2, hm2', hf2⟩
        have HM2 := Lib.hid hm2'
        have HF2 := Lib.hid hf2
        clear hm2' hf2
        go_wp2_with fail
        go_ret
        exact ⟨rv2, by rw [HR.out]; rfl, by rw [HR.out]; exact HM2.out, HF2.out⟩
end Go.Proofs.YtagehnclkneolaaGreatDoor

/-
  The walk over a scan's entry.
-/
namespace Go.Proofs.YtagehnclkneolaaGreatDoor
open Go.RowKit

set_option maxRecDepth 100000 in
set_option maxHeartbeats 1000000 in
theorem scan_entry (w : World) (F : Nat → Prop) (g : Nat) (rv : Value) (rest : List UInt8) (h : ScM w F g rv (rest, false)) (hF : ∀ k, F k → k < w.heap.size) (hrl : rest.length ≤ 140737488354000) :
    Calls Tryz.prog 101 #[.pointer (some ⟨g, 0, none⟩)] w fun x w' => ∃ q c rv', x = .returned (.agg #[.string ⟨(scE rest).1.key.toArray⟩, .int .u64 ((scE rest).1.seq : Int), .bool (scE rest).1.gone, .slice q (scE rest).1.val.length c]) ∧
      Own w' w.heap.size (.slice q (scE rest).1.val.length c) (scE rest).1.val ∧ ScM w' F g rv' (scE rest).2 ∧ Fr (fun k => k = g) w w' := by
  have hgl := block_lt h.blk
  obtain ⟨X, hX⟩ : ∃ X, (w.alloc (.cells #[.string ⟨#[]⟩, .int .u64 0, .bool false, .slice none 0 0] 37)).alloc (.cells #[.string ⟨#[]⟩, .int .u64 0, .bool false, .slice none 0 0] 37) = X := ⟨_, rfl⟩
  have hb : Below w.heap.size w X := by rw [← hX]; exact ((Below.refl _ _).alloc (Nat.le_refl _) _).alloc (by simp) _
  have hXs : X.heap.size = w.heap.size + 2 := by rw [← hX]; simp
  have hXa : X.heap[w.heap.size]? = some (.cells #[.string ⟨#[]⟩, .int .u64 0, .bool false, .slice none 0 0] 37 (0, 0)) := by
    rw [← hX]
    exact (alloc_old (by simp) _).trans (heap_alloc_new w _)
  have hXb : X.heap[w.heap.size + 1]? = some (.cells #[.string ⟨#[]⟩, .int .u64 0, .bool false, .slice none 0 0] 37 (0, 0)) := by
    rw [← hX]
    exact heap_alloc2_new w _ _
  obtain ⟨a, ha⟩ : ∃ a, scB 65535 (rest, false) = a := ⟨_, rfl⟩
  obtain ⟨b, hbb⟩ : ∃ b, scN a.2 = b := ⟨_, rfl⟩
  obtain ⟨c, hc⟩ : ∃ c, scG b.2 = c := ⟨_, rfl⟩
  obtain ⟨d, hd⟩ : ∃ d, scB 33554432 c.2 = d := ⟨_, rfl⟩
  have hE : scE rest = (⟨a.1, b.1, c.1, d.1⟩, d.2) := by unfold scE; rw [ha, hbb, hc, hd]
  have hal : a.1.length ≤ 140737488354000 := by rw [← ha]; have := (rdBytes_len rest 65535).2.2; simp only [scB]; omega
  have HC1 := Lib.hid (scan_bytes X F g rv (rest, false) 65535 (h.below hb) (by omega) (by omega))
  have HC2 := Lib.hid (fun (V : World) (v : Value) (hm : ScM V F g v a.2) => scan_number V F g v a.2 hm)
  have HC3 := Lib.hid (fun (V : World) (v : Value) (hm : ScM V F g v b.2) => scan_flag V F g v b.2 hm)
  have HC4 := Lib.hid (fun (V : World) (v : Value) (hm : ScM V F g v c.2) => scan_bytes V F g v c.2 33554432 hm (by omega) (by omega))
  rw [hE]
  rw [ha] at HC1
  rw [hbb] at HC2
  rw [hc] at HC3
  rw [hd] at HC4
  have HF := Lib.hid hF
  have HBx := Lib.hid (And.intro hXs (And.intro hXa hXb))
  have HFx : Hid (Fr (fun k => k = g) w X) := Lib.hid (Fr.of_new hb _)
  have HGl := Lib.hid hgl
  clear h hF hb hXs hXa hXb ha hbb hc hd hE hgl
  go_enter Tryz.func101, Tryz.ntmps101
  go_wp2_with fail
  refine HC1.out.mono ?_
  rintro r w1 ⟨v1, rv1, rfl, hown1, hm1, hf1⟩
  have hs1 : w.heap.size + 2 ≤ w1.heap.size := by have := hf1.size; have := HBx.out.1; omega
  have htx := txt_run (hown1.rd (by omega))
  have hB1 := hf1.keep HBx.out.2.2 (by have := HGl.out; omega)
  have hA1 := hf1.keep HBx.out.2.1 (by have := HGl.out; omega)
  have f0 := frozen_of (i := 0) hB1
  have y0 := cell_of (i := 0) hB1 rfl
  have HT1 : Hid (Fr (fun k => k = g) w w1) := Lib.hid (HFx.out.trans (hf1.mono fun _ _ h => .inl h))
  have HA1 := Lib.hid hA1
  have HB1 := Lib.hid hB1
  have HM1 := Lib.hid hm1
  clear hown1 hm1 hf1 hA1 hB1 HC1
  obtain ⟨V1, hV1⟩ : ∃ V, w1.setCell ⟨w.heap.size + 1, 0, none⟩ (.string ⟨a.1.toArray⟩) = V := ⟨_, rfl⟩
  have HW1 : Hid (Fr (fun k => k = w.heap.size + 1) w1 V1 ∧ V1.heap[w.heap.size + 1]? = some (.cells #[.string ⟨a.1.toArray⟩, .int .u64 0, .bool false, .slice none 0 0] 37 (0, 0))) := Lib.hid (by
    rw [← hV1]
    exact ⟨Fr.setCell (fun k => k = w.heap.size + 1) w1 (p := ⟨w.heap.size + 1, 0, none⟩) rfl _, by simpa using setCell_same (off := 0) HB1.out (.string ⟨a.1.toArray⟩)⟩)
  have HN1 := Lib.hid (HC2.out V1 rv1 (HM1.out.step HW1.out.1 (by have := HGl.out; omega) (fun k hk e => by have := HF.out k hk; omega)))
  go_wp2_with fail
  refine HN1.out.mono ?_
  rintro r w2 ⟨rv2, rfl, hm2, hf2⟩
  have hs2 : w.heap.size + 2 ≤ w2.heap.size := by have := hf2.size; have := HW1.out.1.size; omega
  have hB2 := hf2.keep HW1.out.2 (by have := HGl.out; omega)
  have hA2 := hf2.keep (HW1.out.1.keep HA1.out (by omega)) (by have := HGl.out; omega)
  have f1 := frozen_of (i := 1) hB2
  have y1 := cell_of (i := 1) hB2 rfl
  have HT2 : Hid (Fr (fun k => k = g) w w2) := Lib.hid ((HT1.out.trans (HW1.out.1.mono fun k _ e => .inr (by omega))).trans (hf2.mono fun _ _ h => .inl h))
  have HA2 := Lib.hid hA2
  have HB2 := Lib.hid hB2
  have HM2 := Lib.hid hm2
  clear hm2 hf2 hA2 hB2 HN1 HC2 f0 y0 htx hV1
  obtain ⟨V2, hV2⟩ : ∃ V, w2.setCell ⟨w.heap.size + 1, 1, none⟩ (.int .u64 (b.1 : Int)) = V := ⟨_, rfl⟩
  have HW2 : Hid (Fr (fun k => k = w.heap.size + 1) w2 V2 ∧ V2.heap[w.heap.size + 1]? = some (.cells #[.string ⟨a.1.toArray⟩, .int .u64 (b.1 : Int), .bool false, .slice none 0 0] 37 (0, 0))) := Lib.hid (by
    rw [← hV2]
    exact ⟨Fr.setCell (fun k => k = w.heap.size + 1) w2 (p := ⟨w.heap.size + 1, 1, none⟩) rfl _, by simpa using setCell_same (off := 1) HB2.out (.int .u64 (b.1 : Int))⟩)
  have HN2 := Lib.hid (HC3.out V2 rv2 (HM2.out.step HW2.out.1 (by have := HGl.out; omega) (fun k hk e => by have := HF.out k hk; omega)))
  go_wp2_with fail
  refine HN2.out.mono ?_
  rintro r w3 ⟨rv3, rfl, hm3, hf3⟩
  have hs3 : w.heap.size + 2 ≤ w3.heap.size := by have := hf3.size; have := HW2.out.1.size; omega
  have hB3 := hf3.keep HW2.out.2 (by have := HGl.out; omega)
  have hA3 := hf3.keep (HW2.out.1.keep HA2.out (by omega)) (by have := HGl.out; omega)
  have f2 := frozen_of (i := 2) hB3
  have y2 := cell_of (i := 2) hB3 rfl
  have HT3 : Hid (Fr (fun k => k = g) w w3) := Lib.hid ((HT2.out.trans (HW2.out.1.mono fun k _ e => .inr (by omega))).trans (hf3.mono fun _ _ h => .inl h))
  have HA3 := Lib.hid hA3
  have HB3 := Lib.hid hB3
  have HM3 := Lib.hid hm3
  clear hm3 hf3 hA3 hB3 HN2 HC3 f1 y1 hV2
  obtain ⟨V3, hV3⟩ : ∃ V, w3.setCell ⟨w.heap.size + 1, 2, none⟩ (.bool c.1) = V := ⟨_, rfl⟩
  have HW3 : Hid (Fr (fun k => k = w.heap.size + 1) w3 V3 ∧ V3.heap[w.heap.size + 1]? = some (.cells #[.string ⟨a.1.toArray⟩, .int .u64 (b.1 : Int), .bool c.1, .slice none 0 0] 37 (0, 0))) := Lib.hid (by
    rw [← hV3]
    exact ⟨Fr.setCell (fun k => k = w.heap.size + 1) w3 (p := ⟨w.heap.size + 1, 2, none⟩) rfl _, by simpa using setCell_same (off := 2) HB3.out (.bool c.1)⟩)
  have HN3 := Lib.hid (HC4.out V3 rv3 (HM3.out.step HW3.out.1 (by have := HGl.out; omega) (fun k hk e => by have := HF.out k hk; omega)))
  go_wp2_with fail
  refine HN3.out.mono ?_
  rintro r w4 ⟨v4, rv4, rfl, hown4, hm4, hf4⟩
  obtain ⟨q4, c4, rfl, _, _⟩ := hown4.shp
  have hs4 : w.heap.size + 2 ≤ w4.heap.size := by have := hf4.size; have := HW3.out.1.size; omega
  have hB4 := hf4.keep HW3.out.2 (by have := HGl.out; omega)
  have hA4 := hf4.keep (HW3.out.1.keep HA3.out (by omega)) (by have := HGl.out; omega)
  have f3 := frozen_of (i := 3) hB4
  have y3 := cell_of (i := 3) hB4 rfl
  have HT4 : Hid (Fr (fun k => k = g) w w4) := Lib.hid ((HT3.out.trans (HW3.out.1.mono fun k _ e => .inr (by omega))).trans (hf4.mono fun _ _ h => .inl h))
  have HA4 := Lib.hid hA4
  have HB4 := Lib.hid hB4
  have HM4 := Lib.hid hm4
  have HO4 := Lib.hid hown4
  have HOl : Hid (∀ k, (Value.slice q4 d.1.length c4).ownBlock = some k → w.heap.size + 2 ≤ k ∧ k < w4.heap.size) := Lib.hid (fun k hk => by have := World.ownsRow.lt hown4 k hk; have := HW3.out.1.size; omega)
  clear hm4 hf4 hA4 hB4 HN3 HC4 f2 y2 hV3 hown4
  obtain ⟨V4, hV4⟩ : ∃ V, w4.setCell ⟨w.heap.size + 1, 3, none⟩ (.slice q4 d.1.length c4) = V := ⟨_, rfl⟩
  have hW4 : Fr (fun k => k = w.heap.size + 1) w4 V4 ∧ V4.heap[w.heap.size + 1]? = some (.cells #[.string ⟨a.1.toArray⟩, .int .u64 (b.1 : Int), .bool c.1, .slice q4 d.1.length c4] 37 (0, 0)) := by
    rw [← hV4]
    exact ⟨Fr.setCell (fun k => k = w.heap.size + 1) w4 (p := ⟨w.heap.size + 1, 3, none⟩) rfl _, by simpa using setCell_same (off := 3) HB4.out (.slice q4 d.1.length c4)⟩
  have hA5 := hW4.1.keep HA4.out (by omega)
  have x0 := cell_of (i := 0) hW4.2 rfl
  have x1 := cell_of (i := 1) hW4.2 rfl
  have x2 := cell_of (i := 2) hW4.2 rfl
  have x3 := cell_of (i := 3) hW4.2 rfl
  have u0 := cell_of (i := 0) hA5 rfl
  have u1 := cell_of (i := 1) hA5 rfl
  have u2 := cell_of (i := 2) hA5 rfl
  have u3 := cell_of (i := 3) hA5 rfl
  have g0 := frozen_of (i := 0) hA5
  have g1 := frozen_of (i := 1) hA5
  have g2 := frozen_of (i := 2) hA5
  have g3 := frozen_of (i := 3) hA5
  have HA5 := Lib.hid hA5
  have HW4 := Lib.hid hW4
  clear hA5 hW4
  go_wp2_with fail
  (try simp only [Exit.inBlock, Exit.then])
  have hfr := set4_fr V4 w.heap.size (.string ⟨a.1.toArray⟩) (.int .u64 (b.1 : Int)) (.bool c.1) (.slice q4 d.1.length c4) (fun k => k = w.heap.size) rfl
  refine bodyPost_ret (v := .agg #[.string ⟨a.1.toArray⟩, .int .u64 (b.1 : Int), .bool c.1, .slice q4 d.1.length c4]) (results_ent1 rfl _ _ w.heap.size _ rfl (set4_heap HA5.out _ _ _ _) rfl) rfl ⟨q4, c4, rv4, rfl, ?_, ?_, ?_⟩
  · refine (HO4.out.more (by have := HW3.out.1.size; omega)).keep fun k hk => ?_
    obtain ⟨k1, k2⟩ := HOl.out k hk
    exact (hfr.block k (Nat.lt_of_lt_of_le k2 HW4.out.1.size) (by omega)).trans (HW4.out.1.block k k2 (by omega))
  · exact (HM4.out.step HW4.out.1 (by have := HGl.out; omega) (fun k hk e => by have := HF.out k hk; omega)).step hfr (by have := HGl.out; omega) (fun k hk e => by have := HF.out k hk; omega)
  · exact (HT4.out.trans (HW4.out.1.mono fun k _ e => .inr (by omega))).trans (hfr.mono fun k _ e => .inr (by omega))
end Go.Proofs.YtagehnclkneolaaGreatDoor
