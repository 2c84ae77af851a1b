import Derived.Test.YtagehnclkneolaaGreatDoorGUc
import Derived.Test.YtagehnclkneolaaGreatDoorGUa

/-
  The reference's same; its two numbers of the foot; a table of the reference's in memory; what its Open tells.
-/
namespace Go.Proofs.YtagehnclkneolaaGreatDoor
open Go.RowKit

set_option maxRecDepth 100000 in
set_option maxHeartbeats 1000000 in
theorem same7_any (v u : Value) (l m : List UInt8) (B B' : Nat) (w : World) (h : Rd w B v l) (h' : Rd w B' u m) :
    Calls Tryz.prog 47 #[v, u] w fun e w' => e = .returned (.bool (l == m)) ∧ w = w' := by
  have t1 := txt_run h
  have t2 := txt_run h'
  clear h h'
  cases q : (l == m)
  all_goals
    go_enter Tryz.func47, Tryz.ntmps47
    go_wp2_with fail
    go_ret
    exact ⟨rfl, rfl⟩

/-- Numbers that are too great are refused as they must be: the table is shorter. -/
theorem r8_ways (i f en : Nat) (he : en ≤ 1099511627776) :
    (r8 i = -1 ∧ (f ≤ i ∨ en ≤ f)) ∨ (r8 i = (i : Int) ∧ i ≤ 1099511627776 ∧ r8 f = -1 ∧ (f ≤ i ∨ en ≤ f)) ∨ (r8 i = (i : Int) ∧ r8 f = (f : Int) ∧ i ≤ 1099511627776 ∧ f ≤ 1099511627776) := by
  rcases r8_lt i with ⟨h1, h2⟩ | ⟨h1, h2⟩
  · exact .inl ⟨h1, by omega⟩
  · rcases r8_lt f with ⟨h3, h4⟩ | ⟨h3, h4⟩
    · exact .inr (.inl ⟨h1, h2, h3, by omega⟩)
    · exact .inr (.inr ⟨h1, h3, h2, h4⟩)
theorem r8_count (c n : Nat) (hn : n ≤ 1099511627776) : (r8 c != (n : Int)) = (c != n) := by
  rcases r8_lt c with ⟨h1, h2⟩ | ⟨h1, h2⟩
  · rw [h1]
    have e1 : ((-1 : Int) != (n : Int)) = true := by rw [bne_iff_ne]; omega
    have e2 : (c != n) = true := by rw [bne_iff_ne]; omega
    rw [e1, e2]
  · rw [h1, Bool.eq_iff_iff, bne_iff_ne, bne_iff_ne]
    omega
theorem ftE_13 {b : List UInt8} {en : Nat} (h : crc ((ftOf b).take 24) ≠ unfour ((ftOf b).drop 24)) : ftE (ftOf b) en = 13 := by
  unfold ftE; rw [if_pos h]
theorem ftE_14 {b : List UInt8} {en : Nat} (h : crc ((ftOf b).take 24) = unfour ((ftOf b).drop 24)) (h2 : fF (ftOf b) ≤ fI (ftOf b) ∨ en ≤ fF (ftOf b)) : ftE (ftOf b) en = 14 := by
  unfold ftE; rw [if_neg (by simpa using h), if_pos h2]
theorem ftE_0 {b : List UInt8} {en : Nat} (h : crc ((ftOf b).take 24) = unfour ((ftOf b).drop 24)) (h2 : ¬ (fF (ftOf b) ≤ fI (ftOf b) ∨ en ≤ fF (ftOf b))) : ftE (ftOf b) en = 0 := by
  unfold ftE; rw [if_neg (by simpa using h), if_neg h2]

/-- A table of the reference's in memory. -/
structure RTbM (w : World) (base tb : Nat) (L : List Ent) (bks : List TBk) : Prop where
  out : ∃ pe ce us pk ck qf cf, w.heap[tb]? = some (.cells #[.slice pe L.length ce, .slice pk bks.length ck, .slice qf (filB L).length cf] 46 (0, 0)) ∧ EnR w base (.slice pe L.length ce) L us ∧ Own w base (.slice qf (filB L).length cf) (filB L)
/-- What the reference's Open tells. -/
def ROpenT (w : World) (b : List UInt8) (x : Ending) (w' : World) : Prop :=
  (∃ at_ e : Nat, opnP b = .inl (at_, e) ∧ x = .returned (.tuple #[.pointer none, .int .i64 (at_ : Int), .int .i64 (e : Int)])) ∨
  (∃ L bks tb, opnP b = .inr (L, bks) ∧ x = .returned (.tuple #[.pointer (some ⟨tb, 0, none⟩), .int .i64 0, .int .i64 0]) ∧ RTbM w' w.heap.size tb L bks)
end Go.Proofs.YtagehnclkneolaaGreatDoor

/-
  What is built by the law's first call is opened: plainly, for lists of few bytes.
-/
namespace Go.Proofs.YtagehnclkneolaaGreatDoor

theorem cutE_ne (block : Nat) : ∀ (l q : List Ent), ∀ c ∈ cutE block q l, c ≠ []
  | [], q, c, h => by
    simp only [cutE] at h
    split at h
    · cases h
    · next h0 =>
      obtain rfl : c = q := by simpa using h
      exact h0
  | e :: r, q, c, h => by
    simp only [cutE] at h
    split at h
    · rcases List.mem_cons.1 h with rfl | h
      · simp
      · exact cutE_ne block r [] c h
    · exact cutE_ne block r (q ++ [e]) c h
theorem wgt_part : ∀ (cs : List (List Ent)) (c : List Ent), c ∈ cs → wgt c ≤ wgt cs.flatten
  | [], _, h => by cases h
  | d :: r, c, h => by
    rw [List.flatten_cons, wgt_append]
    rcases List.mem_cons.1 h with rfl | h
    · omega
    · have := wgt_part r c h
      omega
theorem laid_of {es : List Ent} {block : Nat} (hs : ShL es) (hw : wgt es ≤ 67108864) (hl : es.any longE = false) : ∀ c ∈ cutE block [] es, LaidC c := fun c hc => by
  have hfl := cutE_flat block es []
  rw [List.nil_append] at hfl
  have h1 := wgt_part _ c hc
  rw [hfl] at h1
  have hm : ∀ e ∈ c, e ∈ es := fun e he => by rw [← hfl]; exact List.mem_flatten.2 ⟨c, hc, he⟩
  have he : ∀ e ∈ c, e.key.length ≤ 65535 ∧ e.val.length ≤ 33554432 ∧ e.seq < 18446744073709551616 := fun e h => by
    have h2 := List.any_eq_false.1 hl e (hm e h)
    simp only [longE, Bool.or_eq_true, decide_eq_true_eq, not_or] at h2
    exact ⟨by omega, by omega, hs.1 e (hm e h)⟩
  refine ⟨cutE_ne block es [] c hc, ?_, he⟩
  have h3 := pay_room c (fun e h => by obtain ⟨a, b, d⟩ := he e h; exact ⟨by omega, d, by omega⟩)
  omega
theorem built_opens {es : List Ent} {block : Int} (hs : ShL es) (hw : wgt es ≤ 67108864) (h : refN block es = 0) : rightE es = true ∧ opnP (tblB block.toNat es) = .inr (es, bkOf 0 (cutE block.toNat [] es)) := by
  unfold refN at h
  split at h
  · cases h
  · split at h
    · cases h
    · next h2 =>
      split at h
      · cases h
      · next h3 =>
        have hr : rightE es = true := by simpa using h2
        exact ⟨hr, opnP_back hs hr (laid_of hs hw (by simpa using h3))⟩
end Go.Proofs.YtagehnclkneolaaGreatDoor
