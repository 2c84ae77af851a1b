import Derived.Test.YtlbfgkocpjlamaaGreatDoorDsk
import Derived.Test.YtlbfgkocpjlamaaGreatDoorCA
import Derived.Lib.ItoaNum
import Derived.Lib.Atoi
import Derived.Lib.Strings

/-
  A log in segments, told plainly (chapter on logs): the names of its segments, the disk's files that a log has. Lists and numbers alone.
-/
namespace Go.Proofs.YtlbfgkocpjlamaaGreatDoor

/-! ### names -/
/-- The last k decimal digits of n. -/
def digs : Nat → Nat → List UInt8
  | 0, _ => []
  | k + 1, n => UInt8.ofNat (48 + n / 10 ^ k % 10) :: digs k n
theorem digs_length : ∀ k n, (digs k n).length = k
  | 0, _ => rfl
  | k + 1, n => by simp [digs, digs_length k n]
def segName (nm : List UInt8) (n : Nat) : List UInt8 := nm ++ 45 :: digs 6 n
theorem seg_length (nm : List UInt8) (n : Nat) : (segName nm n).length = nm.length + 7 := by simp [segName, digs_length]
theorem bytes_front (p : List UInt8) (x y : List UInt8) : bytesBefore (p ++ x) (p ++ y) = bytesBefore x y := by
  induction p with
  | nil => rfl
  | cons a r ih => simp [bytesBefore, ih]
theorem digit_lt {a b : Nat} (ha : a < 10) (hb : b < 10) (h : a < b) : UInt8.ofNat (48 + a) < UInt8.ofNat (48 + b) := by
  rw [UInt8.lt_iff_toNat_lt, UInt8.toNat_ofNat', UInt8.toNat_ofNat']
  omega
theorem digs_before : ∀ (k a b : Nat), a % 10 ^ k < b % 10 ^ k → bytesBefore (digs k a) (digs k b) = true
  | 0, a, b, h => by simp [Nat.mod_one] at h
  | k + 1, a, b, h => by
    have hp : 0 < 10 ^ k := Nat.pow_pos (by omega)
    rw [Nat.pow_succ, Nat.mod_mul, Nat.mod_mul] at h
    have ha := Nat.mod_lt a hp
    have hb := Nat.mod_lt b hp
    have ha2 := Nat.mod_lt (a / 10 ^ k) (show 0 < 10 by omega)
    have hb2 := Nat.mod_lt (b / 10 ^ k) (show 0 < 10 by omega)
    unfold digs bytesBefore
    rcases Nat.lt_trichotomy (a / 10 ^ k % 10) (b / 10 ^ k % 10) with hlt | heq | hgt
    · rw [decide_eq_true (digit_lt ha2 hb2 hlt), Bool.true_or]
    · rw [heq] at h
      simp [heq, digs_before k a b (by omega)]
    · exfalso
      have : 10 ^ k * (b / 10 ^ k % 10 + 1) ≤ 10 ^ k * (a / 10 ^ k % 10) := Nat.mul_le_mul_left _ hgt
      rw [Nat.mul_succ] at this
      omega
theorem seg_before (nm : List UInt8) {a b : Nat} (hb : b < 1000000) (h : a < b) : bytesBefore (segName nm a) (segName nm b) = true := by
  unfold segName
  rw [bytes_front]
  have := digs_before 6 a b (by rw [Nat.mod_eq_of_lt (show a < 10 ^ 6 by omega), Nat.mod_eq_of_lt (show b < 10 ^ 6 by omega)]; exact h)
  simp [bytesBefore, this]
theorem before_ne {a b : List UInt8} (h : bytesBefore a b = true) : a ≠ b := by
  rintro rfl
  rw [before_asymm h] at h
  cases h
theorem seg_ne (nm : List UInt8) {a b : Nat} (ha : a < 1000000) (hb : b < 1000000) (h : a ≠ b) : segName nm a ≠ segName nm b := by
  rcases Nat.lt_or_gt_of_ne h with h | h
  · exact before_ne (seg_before nm hb h)
  · exact (before_ne (seg_before nm ha h)).symm

/-! ### files of a log: the elder segments whole and synced, the last with the bytes c, of which y are synced -/
def full (nm : List UInt8) (n : Nat) (ls : List (List UInt8)) : Fl := ⟨segName nm n, frames ls, (frames ls).length⟩
def fulls (nm : List UInt8) : Nat → List (List (List UInt8)) → List Fl
  | _, [] => []
  | n, ls :: r => full nm n ls :: fulls nm (n + 1) r
def logF (nm : List UInt8) (first : Nat) (old : List (List (List UInt8))) (c : List UInt8) (y : Nat) : List Fl :=
  fulls nm first old ++ [⟨segName nm (first + old.length), c, y⟩]
section
variable {nm : List UInt8}
theorem fulls_length : ∀ (n : Nat) (old : List (List (List UInt8))), (fulls nm n old).length = old.length
  | _, [] => rfl
  | n, ls :: r => by simp [fulls, fulls_length (n + 1) r]
theorem fulls_snoc : ∀ (n : Nat) (old : List (List (List UInt8))) (ls : List (List UInt8)), fulls nm n (old ++ [ls]) = fulls nm n old ++ [full nm (n + old.length) ls]
  | _, [], _ => rfl
  | n, x :: r, ls => by
    have := fulls_snoc (n + 1) r ls
    simp only [List.cons_append, fulls, this, List.length_cons, List.cons.injEq, true_and]
    rw [show n + 1 + r.length = n + (r.length + 1) by omega]
theorem mem_fulls : ∀ {n : Nat} {old : List (List (List UInt8))} {f : Fl}, f ∈ fulls nm n old → ∃ k ls, old[k]? = some ls ∧ f = full nm (n + k) ls
  | _, [], _, h => by simp [fulls] at h
  | n, x :: r, f, h => by
    rcases List.mem_cons.1 h with rfl | h
    · exact ⟨0, x, rfl, rfl⟩
    · obtain ⟨k, ls, h1, h2⟩ := mem_fulls h
      exact ⟨k + 1, ls, by simpa using h1, by rw [h2, show n + 1 + k = n + (k + 1) by omega]⟩
theorem fulls_at : ∀ (n : Nat) (old : List (List (List UInt8))) (k : Nat), (fulls nm n old)[k]? = (old[k]?).map (full nm (n + k))
  | _, [], _ => by simp [fulls]
  | n, x :: r, 0 => by simp [fulls]
  | n, x :: r, k + 1 => by
    have := fulls_at (n + 1) r k
    simp only [fulls, List.getElem?_cons_succ, this]
    rw [show n + 1 + k = n + (k + 1) by omega]
theorem fulls_srt : ∀ (n : Nat) (old : List (List (List UInt8))), n + old.length ≤ 1000000 → Srt (fulls nm n old)
  | _, [], _ => List.Pairwise.nil
  | n, x :: r, h => by
    rw [List.length_cons] at h
    refine List.pairwise_cons.2 ⟨fun f hf => ?_, fulls_srt (n + 1) r (by omega)⟩
    obtain ⟨k, ls, h1, rfl⟩ := mem_fulls hf
    have := (List.getElem?_eq_some_iff.1 h1).1
    exact seg_before nm (by omega) (by omega)
theorem fulls_ne {n : Nat} {old : List (List (List UInt8))} {m : Nat} (h : n + old.length ≤ 1000000) (hm : m < 1000000) (hn : m < n ∨ n + old.length ≤ m) : ∀ f ∈ fulls nm n old, f.name ≠ segName nm m := by
  intro f hf
  obtain ⟨k, ls, h1, rfl⟩ := mem_fulls hf
  have := (List.getElem?_eq_some_iff.1 h1).1
  exact seg_ne nm (by omega) hm (by omega)
theorem logF_srt {first : Nat} {old : List (List (List UInt8))} (c : List UInt8) (y : Nat) (h : first + old.length < 1000000) : Srt (logF nm first old c y) := by
  refine List.pairwise_append.2 ⟨fulls_srt _ _ (by omega), List.pairwise_singleton _ _, fun f hf g hg => ?_⟩
  obtain rfl := List.mem_singleton.1 hg
  obtain ⟨k, ls, h1, rfl⟩ := mem_fulls hf
  have := (List.getElem?_eq_some_iff.1 h1).1
  exact seg_before nm h (by omega)
theorem logF_last {first : Nat} {old : List (List (List UInt8))} {c : List UInt8} {y : Nat} (h : first + old.length < 1000000) :
    look (segName nm (first + old.length)) (logF nm first old c y) = some ⟨segName nm (first + old.length), c, y⟩ :=
  look_mem (logF_srt c y h) (f := ⟨segName nm (first + old.length), c, y⟩) (by simp [logF])
theorem logF_old {first : Nat} {old : List (List (List UInt8))} {c : List UInt8} {y : Nat} (h : first + old.length < 1000000) {k : Nat} {ls : List (List UInt8)} (hk : old[k]? = some ls) :
    look (segName nm (first + k)) (logF nm first old c y) = some (full nm (first + k) ls) := by
  refine look_mem (logF_srt c y h) (f := full nm (first + k) ls) (List.mem_append_left _ ?_)
  exact List.mem_of_getElem? ((fulls_at first old k).trans (by rw [hk]; rfl))
theorem logF_none {first : Nat} {old : List (List (List UInt8))} {c : List UInt8} {y m : Nat} (h : first + old.length < 1000000) (hm : m < 1000000) (hn : m < first ∨ first + old.length < m) :
    look (segName nm m) (logF nm first old c y) = none := by
  refine look_none.2 fun f hf => ?_
  rcases List.mem_append.1 hf with hf | hf
  · exact fulls_ne (by omega) hm (by omega) f hf
  · obtain rfl := List.mem_singleton.1 hf
    exact seg_ne nm h hm (by omega)
theorem logF_put {first : Nat} {old : List (List (List UInt8))} {c c' : List UInt8} {y y' : Nat} (h : first + old.length < 1000000) :
    put ⟨segName nm (first + old.length), c', y'⟩ (logF nm first old c y) = logF nm first old c' y' := by
  have hm : (⟨segName nm (first + old.length), c, y⟩ : Fl) ∈ logF nm first old c y := by simp [logF]
  refine (put_map (f' := ⟨segName nm (first + old.length), c', y'⟩) (logF_srt c y h) hm rfl).trans ?_
  unfold logF
  rw [List.map_append, List.map_singleton, if_pos rfl]
  congr 1
  exact map_id fun f hf => fulls_ne (by omega) h (by omega) f hf
theorem ins_behind {f : Fl} : ∀ {l : List Fl}, (∀ g ∈ l, bytesBefore g.name f.name = true) → ins f l = l ++ [f]
  | [], _ => rfl
  | g :: r, h => by
    have h1 := before_asymm (h g (by simp))
    unfold ins
    rw [h1]
    simp only [Bool.false_eq_true, if_false, List.cons_append]
    rw [ins_behind fun x hx => h x (by simp [hx])]
/-- A new segment behind the last. -/
theorem logF_turn {first : Nat} {old : List (List (List UInt8))} {ls : List (List UInt8)} (h : first + old.length + 1 < 1000000) (c : List UInt8) (y : Nat) :
    put ⟨segName nm (first + old.length + 1), c, y⟩ (logF nm first old (frames ls) (frames ls).length) = logF nm first (old ++ [ls]) c y := by
  have hb : ∀ g ∈ logF nm first old (frames ls) (frames ls).length, bytesBefore g.name (segName nm (first + old.length + 1)) = true := by
    intro g hg
    rcases List.mem_append.1 hg with hg | hg
    · obtain ⟨k, ls, h1, rfl⟩ := mem_fulls hg
      have := (List.getElem?_eq_some_iff.1 h1).1
      exact seg_before nm h (by omega)
    · obtain rfl := List.mem_singleton.1 hg
      exact seg_before nm h (by omega)
  unfold put
  rw [del_none (look_none.2 fun g hg => before_ne (hb g hg)), ins_behind hb]
  unfold logF
  rw [fulls_snoc, List.length_append, List.length_singleton, Nat.add_assoc]
  rfl
/-- The eldest segment deleted. -/
theorem logF_del {first : Nat} {x : List (List UInt8)} {old : List (List (List UInt8))} {c : List UInt8} {y : Nat} (h : first + (x :: old).length < 1000000) :
    del (segName nm first) (logF nm first (x :: old) c y) = logF nm (first + 1) old c y := by
  have hs := logF_srt (nm := nm) c y h
  rw [List.length_cons] at h
  have e : logF nm first (x :: old) c y = full nm first x :: logF nm (first + 1) old c y := by
    simp only [logF, fulls, List.length_cons, List.cons_append, List.cons.injEq, true_and]
    rw [show first + (old.length + 1) = first + 1 + old.length by omega]
  rw [e]
  have hd : del (segName nm first) (logF nm (first + 1) old c y) = logF nm (first + 1) old c y := del_none (logF_none (by omega) (by omega) (by omega))
  unfold del at hd ⊢
  rw [List.filter_cons_of_neg (by simp [full]), hd]
theorem used_append (a b : List Fl) : used (a ++ b) = used a + used b := by simp [used]
theorem used_fulls : ∀ (n : Nat) (old : List (List (List UInt8))), used (fulls nm n old) = (old.map fun ls => (frames ls).length).sum
  | _, [] => rfl
  | n, x :: r => by
    have := used_fulls (n + 1) r
    simp only [used, fulls, List.map_cons, List.sum_cons, full] at this ⊢
    rw [this]
theorem used_logF (first : Nat) (old : List (List (List UInt8))) (c : List UInt8) (y : Nat) : used (logF nm first old c y) = (old.map fun ls => (frames ls).length).sum + c.length := by
  unfold logF
  rw [used_append, used_fulls]
  simp [used]
end
end Go.Proofs.YtlbfgkocpjlamaaGreatDoor

/-
  A segment's number in six digits: as it is printed, as it is read.
-/
namespace Go.Proofs.YtlbfgkocpjlamaaGreatDoor

theorem digs_snoc : ∀ k n, digs (k + 1) n = digs k (n / 10) ++ [UInt8.ofNat (48 + n % 10)]
  | 0, n => by simp [digs]
  | k + 1, n => by
    have h := digs_snoc k n
    rw [digs, h]
    conv => rhs; rw [digs]
    rw [Nat.pow_succ, Nat.mul_comm, ← Nat.div_div_eq_div_mul, List.cons_append]
theorem digs_zero : ∀ k, digs k 0 = List.replicate k 48
  | 0 => rfl
  | k + 1 => by
    rw [digs, digs_zero k, List.replicate_succ]
    simp
theorem decDigits_pad : ∀ k n, n < 10 ^ (k + 1) → (Lib.decDigits n).length ≤ k + 1 ∧ List.replicate (k + 1 - (Lib.decDigits n).length) 48 ++ Lib.decDigits n = digs (k + 1) n
  | 0, n, h => by
    have h1 : n < 10 := by simpa using h
    rw [Lib.decDigits, dif_pos h1]
    simp [digs, Nat.mod_eq_of_lt h1]
  | k + 1, n, h => by
    rw [Nat.pow_succ] at h
    by_cases h1 : n < 10
    · rw [Lib.decDigits, dif_pos h1, digs_snoc, show n / 10 = 0 by omega, digs_zero, Nat.mod_eq_of_lt h1]
      simp
    · obtain ⟨h2, h3⟩ := decDigits_pad k (n / 10) (by omega)
      rw [Lib.decDigits, dif_neg h1, List.length_append, List.length_singleton, digs_snoc, ← h3]
      refine ⟨by omega, ?_⟩
      rw [show k + 1 + 1 - ((Lib.decDigits (n / 10)).length + 1) = k + 1 - (Lib.decDigits (n / 10)).length by omega, List.append_assoc]
theorem itoa_pad {n : Nat} (h : n ≤ 999999) : (Lib.itoa (n : Int)).length ≤ 6 ∧ List.replicate (6 - (Lib.itoa (n : Int)).length) 48 ++ Lib.itoa (n : Int) = digs 6 n := by
  have e : Lib.itoa (n : Int) = Lib.decDigits n := by
    unfold Lib.itoa
    rw [if_neg (by omega)]
    simp
  rw [e]
  exact decDigits_pad 5 n (by omega)
theorem digit_val {d : Nat} (h : d < 10) : Lib.digitVal (UInt8.ofNat (48 + d)) = some d := by
  have e : (UInt8.ofNat (48 + d)).toNat = 48 + d := by
    rw [UInt8.toNat_ofNat']
    omega
  unfold Lib.digitVal
  rw [e, if_pos (by omega)]
  congr 1
  omega
theorem decFrom_digs : ∀ k acc n, Lib.decFrom acc (digs k n) = some (acc * 10 ^ k + n % 10 ^ k)
  | 0, acc, n => by simp [digs, Lib.decFrom, Nat.mod_one]
  | k + 1, acc, n => by
    have hd := Nat.mod_lt (n / 10 ^ k) (show 0 < 10 by omega)
    simp only [digs, Lib.decFrom, digit_val hd, decFrom_digs k]
    rw [Nat.pow_succ, Nat.mod_mul, Nat.add_mul, Nat.mul_assoc, Nat.mul_comm 10 (10 ^ k), Nat.mul_comm (n / 10 ^ k % 10) (10 ^ k), Nat.add_assoc, Nat.add_comm (10 ^ k * _)]
theorem atoi_digs {n : Nat} (h : n ≤ 999999) : Lib.atoi (digs 6 n) = some (n : Int) := by
  have h1 := decFrom_digs 6 0 n
  rw [Nat.mod_eq_of_lt (by omega)] at h1
  have hd := Nat.mod_lt (n / 10 ^ 5) (show 0 < 10 by omega)
  have e : digs 6 n = UInt8.ofNat (48 + n / 10 ^ 5 % 10) :: digs 5 n := rfl
  have ev : (UInt8.ofNat (48 + n / 10 ^ 5 % 10)).toNat = 48 + n / 10 ^ 5 % 10 := by
    rw [UInt8.toNat_ofNat']
    omega
  rw [e] at h1 ⊢
  generalize UInt8.ofNat (48 + n / 10 ^ 5 % 10) = c at *
  have n1 : (c == 45) = false := by
    refine beq_eq_false_iff_ne.2 fun e => ?_
    rw [e] at ev
    have : (45 : UInt8).toNat = 45 := rfl
    omega
  have n2 : (c == 43) = false := by
    refine beq_eq_false_iff_ne.2 fun e => ?_
    rw [e] at ev
    have : (43 : UInt8).toNat = 43 := rfl
    omega
  unfold Lib.atoi
  simp only [n1, n2, Bool.false_eq_true, if_false, Lib.decNat, List.isEmpty_cons, h1, Option.map_some]
  simp
theorem seg_prefix (nm : List UInt8) (n : Nat) : Lib.hasPrefix (segName nm n) (nm ++ [45]) = true := by
  unfold Lib.hasPrefix segName
  rw [show nm ++ 45 :: digs 6 n = (nm ++ [45]) ++ digs 6 n by simp]
  exact List.isPrefixOf_iff_prefix.2 (List.prefix_append _ _)
theorem seg_trim (nm : List UInt8) (n : Nat) : Lib.trimPrefix (segName nm n) (nm ++ [45]) = digs 6 n := by
  unfold Lib.trimPrefix
  rw [seg_prefix, if_pos rfl]
  unfold segName
  rw [show nm ++ 45 :: digs 6 n = (nm ++ [45]) ++ digs 6 n by simp, List.drop_left]
end Go.Proofs.YtlbfgkocpjlamaaGreatDoor
