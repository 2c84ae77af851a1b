/-
  A log's disk, plainly, behind each call.
-/
import Derived.Test.YtlbfgkocpjlamaaGreatDoorWlE
import Derived.Test.YtlbfgkocpjlamaaGreatDoorWlT
import Derived.Test.YtlbfgkocpjlamaaGreatDoorWB
namespace Go.Proofs.YtlbfgkocpjlamaaGreatDoor

def logD (D : Dsk) (nm : List UInt8) (first : Nat) (old : List (List (List UInt8))) (c : List UInt8) (y : Nat) : Dsk := { D with files := logF nm first old c y }
section
variable {D : Dsk} {nm : List UInt8} {first : Nat} {old : List (List (List UInt8))} {c : List UInt8} {y : Nat}
theorem logF_names (nm : List UInt8) : ∀ (first : Nat) (old : List (List (List UInt8))) (c : List UInt8) (y : Nat), namesOf (logF nm first old c y) = segs nm (nums first (old.length + 1)) := by
  intro first old c y
  have h : ∀ (first : Nat) (old : List (List (List UInt8))), namesOf (fulls nm first old) = segs nm (nums first old.length) := fun first old => by
    induction old generalizing first with
    | nil => rfl
    | cons x r ih =>
      have := ih (first + 1)
      simp only [namesOf, segs, nums, fulls, List.map_cons, List.length_cons, List.range'_succ] at this ⊢
      rw [this]
      rfl
  unfold logF
  rw [nums_snoc]
  have := h first old
  simp only [namesOf, segs, List.map_append, List.map_cons, List.map_nil] at this ⊢
  rw [this]
theorem segs_all (nm : List UInt8) (ns : List Nat) : (segs nm ns).filter (begs [nm ++ [45]]) = segs nm ns := List.filter_eq_self.2 fun s hs => by
  obtain ⟨n, _, rfl⟩ := List.mem_map.1 hs
  simp [begs, seg_prefix]
theorem logD_segs (D : Dsk) (nm : List UInt8) (first : Nat) (old : List (List (List UInt8))) (c : List UInt8) (y : Nat) : Segs (logD D nm first old c y) nm (nums first (old.length + 1)) := by
  show (namesOf (logF nm first old c y)).filter _ = _
  rw [logF_names, segs_all]
  rfl
theorem logD_count (D : Dsk) (nm : List UInt8) (first : Nat) (old : List (List (List UInt8))) (c : List UInt8) (y : Nat) : (logD D nm first old c y).files.length = old.length + 1 := by
  show (logF nm first old c y).length = _
  simp [logF, fulls_length]
theorem logD_look (h : first + old.length < 1000000) : look (segName nm (first + old.length)) (logD D nm first old c y).files = some ⟨segName nm (first + old.length), c, y⟩ := logF_last h
theorem sync_logD (h : first + old.length < 1000000) : sync1 (logD D nm first old c y) (segName nm (first + old.length)) = logD D nm first old c c.length := by
  unfold sync1
  rw [fileOf_look (logD_look h)]
  exact congrArg (fun l => Dsk.mk D.size l D.born) (logF_put h)
theorem app_logD (h : first + old.length < 1000000) (m : List UInt8) : app (logD D nm first old c y) (segName nm (first + old.length)) m = logD D nm first old (c ++ m) y := by
  unfold app
  rw [fileOf_look (logD_look h)]
  exact congrArg (fun l => Dsk.mk D.size l D.born) (logF_put h)
theorem turn_logD {ls : List (List UInt8)} (h : first + old.length + 1 < 1000000) : app (sync1 (logD D nm first old (frames ls) y) (segName nm (first + old.length))) (segName nm (first + old.length + 1)) [] = logD D nm first (old ++ [ls]) [] 0 := by
  rw [sync_logD (by omega)]
  have hn : look (segName nm (first + old.length + 1)) (logD D nm first old (frames ls) (frames ls).length).files = none := logF_none (by omega) (by omega) (by omega)
  unfold app
  rw [show fileOf (logD D nm first old (frames ls) (frames ls).length) (segName nm (first + old.length + 1)) = ⟨segName nm (first + old.length + 1), [], 0⟩ by simp [fileOf, hn]]
  exact congrArg (fun l => Dsk.mk D.size l D.born) (logF_turn h [] 0)
theorem used_logD : used (logD D nm first old c y).files = (old.map fun ls => (frames ls).length).sum + c.length := used_logF first old c y
theorem app_nil {D : Dsk} (hs : Srt D.files) {s : List UInt8} {f : Fl} (h : look s D.files = some f) : app D s [] = D := by
  obtain ⟨hm, hn⟩ := look_some h
  unfold app
  rw [fileOf_look h, List.append_nil]
  have e : (⟨s, f.data, f.synced⟩ : Fl) = f := by
    subst hn
    rfl
  rw [e, put_self hs hm]
theorem syncs_append (D : Dsk) (a b : List (List UInt8)) : syncs D (a ++ b) = syncs (syncs D a) b := List.foldl_append
theorem syncs_old (h : first + old.length < 1000000) : ∀ k, k ≤ old.length → syncs (logD D nm first old c y) (segs nm (nums first k)) = logD D nm first old c y
  | 0, _ => rfl
  | k + 1, hk => by
    have ih := syncs_old h k (by omega)
    rw [nums_snoc]
    unfold segs at ih ⊢
    rw [List.map_append, syncs_append, ih]
    show sync1 _ (segName nm (first + k)) = _
    have hl := logF_old (c := c) (y := y) (nm := nm) h (List.getElem?_eq_getElem (show k < old.length by omega))
    have hs : Srt (logD D nm first old c y).files := logF_srt c y h
    unfold sync1
    rw [fileOf_look (D := logD D nm first old c y) hl]
    have hp := put_self hs (look_some hl).1
    simp only [full] at hp ⊢
    rw [hp]
theorem syncs_logD (h : first + old.length < 1000000) : syncs (logD D nm first old c y) (segs nm (nums first (old.length + 1))) = logD D nm first old c c.length := by
  rw [nums_snoc]
  unfold segs
  rw [List.map_append, syncs_append]
  have := syncs_old (D := D) (nm := nm) (c := c) (y := y) h old.length (Nat.le_refl _)
  unfold segs at this
  rw [this]
  exact sync_logD h
theorem app_first (h : first + old.length < 1000000) : app (logD D nm first old c y) (segName nm first) [] = logD D nm first old c y := by
  have hs : Srt (logD D nm first old c y).files := logF_srt c y h
  rcases old with _ | ⟨x, r⟩
  · exact app_nil hs (logF_last (old := []) h)
  · exact app_nil hs (logF_old (k := 0) h rfl)
theorem crash_logD (ps : List Int) (h : y ≤ c.length) : crash (logD D nm first old c y) ps = logD D nm first old (c.take (left c y (ps.getD old.length 0))) (left c y (ps.getD old.length 0)) :=
  congrArg (fun l => Dsk.mk D.size l D.born) (crash_logF nm first old c y ps h)
theorem dels_append (D : Dsk) (a b : List (List UInt8)) : dels D (a ++ b) = dels (dels D a) b := List.foldl_append
/-- The eldest ones are let go. -/
theorem dels_logD : ∀ (b : Nat), b ≤ old.length → first + old.length < 1000000 → dels (logD D nm first old c y) (segs nm (nums first b)) = logD D nm (first + b) (old.drop b) c y
  | 0, _, _ => rfl
  | b + 1, hb, h => by
    have ih := dels_logD b (by omega) h
    rw [nums_snoc]
    unfold segs at ih ⊢
    rw [List.map_append, dels_append, ih]
    show del1 _ (segName nm (first + b)) = _
    have e : old.drop b = old[b] :: old.drop (b + 1) := List.drop_eq_getElem_cons (by omega)
    rw [e]
    have hd := logF_del (nm := nm) (first := first + b) (x := old[b]) (old := old.drop (b + 1)) (c := c) (y := y) (by rw [← e, List.length_drop]; omega)
    exact congrArg (fun l => Dsk.mk D.size l D.born) hd
theorem toldOf_old (old : List (List (List UInt8))) (h : ∀ ls ∈ old, ∀ l ∈ ls, l.length ≤ 67108864) (c : List UInt8) : toldOf (old.map frames ++ [c]) = old.flatten ++ (rdFrames c).1 := by
  have h2 : (old.map frames).map (fun c => (rdFrames c).1) = old := by
    rw [List.map_map]
    refine (List.map_congr_left fun ls hl => ?_).trans (List.map_id _)
    show (rdFrames (frames ls)).1 = ls
    rw [rdFrames_whole ls (h ls hl)]
  unfold toldOf
  rw [List.map_append, h2, List.flatten_append]
  simp
end
end Go.Proofs.YtlbfgkocpjlamaaGreatDoor
