import Derived.Test.YtlbfgkocpjlamaaGreatDoorWA
import Derived.Test.YtlbfgkocpjlamaaGreatDoorDA
import Derived.Test.YtlbfgkocpjlamaaGreatDoorCrW

/-
  Names of a log's files are names of files; the file beside is no segment.
-/
namespace Go.Proofs.YtlbfgkocpjlamaaGreatDoor

/-- Bytes that a log's name may have. -/
def ofLog (c : UInt8) : Bool := (decide (97 ≤ c.toNat) && decide (c.toNat ≤ 122)) || (decide (48 ≤ c.toNat) && decide (c.toNat ≤ 57))
def isLog (nm : List UInt8) : Bool := decide (1 ≤ nm.length) && decide (nm.length ≤ 32) && nm.all ofLog
def tmpName (nm : List UInt8) : List UInt8 := nm ++ [46, 116, 109, 112]
theorem ofLog_name {c : UInt8} (h : ofLog c = true) : ofNm c = true := by
  unfold ofLog at h
  unfold ofNm
  rw [h]
  rfl
theorem isLog_all {nm : List UInt8} (h : isLog nm = true) : nm.all ofNm = true := by
  simp only [isLog, Bool.and_eq_true, List.all_eq_true] at h
  exact List.all_eq_true.2 fun x hx => ofLog_name (h.2 x hx)
theorem isLog_len {nm : List UInt8} (h : isLog nm = true) : 1 ≤ nm.length ∧ nm.length ≤ 32 := by
  simp only [isLog, Bool.and_eq_true, decide_eq_true_eq] at h
  exact h.1
theorem digs_name : ∀ k n, (digs k n).all ofNm = true
  | 0, _ => rfl
  | k + 1, n => by
    have hd := Nat.mod_lt (n / 10 ^ k) (show 0 < 10 by omega)
    simp only [digs, List.all_cons, digs_name k n, Bool.and_true]
    have e : (UInt8.ofNat (48 + n / 10 ^ k % 10)).toNat = 48 + n / 10 ^ k % 10 := by
      rw [UInt8.toNat_ofNat']
      omega
    unfold ofNm
    rw [e]
    simp only [Bool.or_eq_true, Bool.and_eq_true, decide_eq_true_eq]
    omega
theorem seg_isName {nm : List UInt8} (h : isLog nm = true) (n : Nat) : isName (segName nm n) = true := by
  have hl := isLog_len h
  have ha : (segName nm n).all ofNm = true := by
    unfold segName
    rw [List.all_append, isLog_all h, List.all_cons, digs_name]
    rfl
  unfold isName
  rw [seg_length, ha, decide_eq_true (show 1 ≤ nm.length + 7 by omega), decide_eq_true (show nm.length + 7 ≤ 64 by omega)]
  rfl
theorem tmp_isName {nm : List UInt8} (h : isLog nm = true) : isName (tmpName nm) = true := by
  have hl := isLog_len h
  have ha : (tmpName nm).all ofNm = true := by
    unfold tmpName
    rw [List.all_append, isLog_all h]
    rfl
  have e : (tmpName nm).length = nm.length + 4 := by simp [tmpName]
  unfold isName
  rw [e, ha, decide_eq_true (show 1 ≤ nm.length + 4 by omega), decide_eq_true (show nm.length + 4 ≤ 64 by omega)]
  rfl
theorem tmp_ne (nm : List UInt8) (n : Nat) : tmpName nm ≠ segName nm n := by
  intro h
  have := congrArg List.length h
  simp [tmpName, seg_length] at this
theorem tmp_none (nm : List UInt8) (first : Nat) (old : List (List (List UInt8))) (c : List UInt8) (y : Nat) : look (tmpName nm) (logF nm first old c y) = none := by
  refine look_none.2 fun f hf => ?_
  rcases List.mem_append.1 hf with hf | hf
  · obtain ⟨k, ls, _, rfl⟩ := mem_fulls hf
    exact (tmp_ne nm _).symm
  · obtain rfl := List.mem_singleton.1 hf
    exact (tmp_ne nm _).symm
end Go.Proofs.YtlbfgkocpjlamaaGreatDoor

/-
  A log in segments, told plainly: what a crash leaves of it, and what is read of that.
-/
namespace Go.Proofs.YtlbfgkocpjlamaaGreatDoor

/-! ### a crash -/
theorem torn_full (nm : List UInt8) (n : Nat) (ls : List (List UInt8)) (p : Int) : torn (full nm n ls) p = full nm n ls := by
  have h : kept p 0 = 0 := Nat.le_zero.1 (kept_le p 0)
  simp [torn, full, h]
theorem crash_fulls (nm : List UInt8) : ∀ (n : Nat) (old : List (List (List UInt8))) (r : List Fl) (ps : List Int),
    crashL (fulls nm n old ++ r) ps = fulls nm n old ++ crashL r (ps.drop old.length)
  | _, [], _, _ => rfl
  | n, x :: old, r, ps => by
    have := crash_fulls nm (n + 1) old r ps.tail
    simp only [fulls, List.cons_append, crashL, this, torn_full, List.length_cons]
    cases ps <;> simp
/-- What of the last segment a crash leaves. -/
def left (c : List UInt8) (y : Nat) (p : Int) : Nat := y + kept p (c.length - y)
theorem left_le (c : List UInt8) (y : Nat) (p : Int) (h : y ≤ c.length) : left c y p ≤ c.length := by
  have := kept_le p (c.length - y)
  unfold left
  omega
theorem left_ge (c : List UInt8) (y : Nat) (p : Int) : y ≤ left c y p := by unfold left; omega
theorem crash_logF (nm : List UInt8) (first : Nat) (old : List (List (List UInt8))) (c : List UInt8) (y : Nat) (ps : List Int) (h : y ≤ c.length) :
    crashL (logF nm first old c y) ps = logF nm first old (c.take (left c y (ps.getD old.length 0))) (left c y (ps.getD old.length 0)) := by
  unfold logF
  rw [crash_fulls]
  congr 1
  have e : (ps.drop old.length).headD 0 = ps.getD old.length 0 := by
    rw [List.headD_eq_head?_getD, List.head?_drop, List.getD_eq_getElem?_getD]
  have h2 := left_le c y (ps.getD old.length 0) h
  unfold left at h2
  simp only [crashL, torn, e, left, List.length_take, Nat.min_eq_left h2]

/-! ### what is read -/
theorem wh_frames : ∀ (ls : List (List UInt8)) (c : Nat), (wh ls c).1 ≤ ls.length ∧ (wh ls c).2 = (frames (ls.take (wh ls c).1)).length ∧ (wh ls c).2 ≤ c
  | [], _ => by simp [wh, frames]
  | l :: r, c => by
    unfold wh
    split
    · rename_i h
      obtain ⟨h1, h2, h3⟩ := wh_frames r (c - (frame l).length)
      refine ⟨by simp; omega, ?_, by simp only; omega⟩
      simp only [List.take_succ_cons, frames_cons, List.length_append]
      omega
    · simp [frames]
theorem wh_take (ls : List (List UInt8)) (c : Nat) : (frames ls).take (wh ls c).2 = frames (ls.take (wh ls c).1) := by
  have h := (wh_frames ls c).2.1
  have e : frames ls = frames (ls.take (wh ls c).1) ++ frames (ls.drop (wh ls c).1) := by
    unfold frames
    rw [← List.flatten_append, ← List.map_append, List.take_append_drop]
  rw [e, h, List.take_left]
/-- All whole frames within c bytes are counted. -/
theorem wh_ge : ∀ (ls : List (List UInt8)) (c s : Nat), s ≤ ls.length → (frames (ls.take s)).length ≤ c → s ≤ (wh ls c).1
  | _, _, 0, _, _ => Nat.zero_le _
  | [], _, s + 1, h, _ => by simp at h
  | l :: r, c, s + 1, h, hc => by
    simp only [List.take_succ_cons, frames_cons, List.length_append] at hc
    have := wh_ge r (c - (frame l).length) s (by simpa using h) (by omega)
    unfold wh
    rw [if_pos (by omega)]
    simp only
    omega
theorem wh_whole (ls : List (List UInt8)) : wh ls (frames ls).length = (ls.length, (frames ls).length) := by
  obtain ⟨h1, h2, h3⟩ := wh_frames ls (frames ls).length
  have h4 := wh_ge ls (frames ls).length ls.length (Nat.le_refl _) (by rw [List.take_length]; exact Nat.le_refl _)
  have e : (wh ls (frames ls).length).1 = ls.length := Nat.le_antisymm h1 h4
  rw [e, List.take_length] at h2
  exact Prod.ext e h2
/-- Whole frames are read back. -/
theorem rdFrames_whole (ls : List (List UInt8)) (h : ∀ l ∈ ls, l.length ≤ 67108864) : rdFrames (frames ls) = (ls, (frames ls).length, 0) := by
  have := rdFrames_front ls (frames ls).length h (Nat.le_refl _)
  rw [List.take_length, wh_whole] at this
  simpa using this
end Go.Proofs.YtlbfgkocpjlamaaGreatDoor
