/-
  What the calls answer and do, told plainly; each call of either disk in one contract.
-/
import Derived.Test.YtlbfgkocpjlamaaGreatDoorAppW
import Derived.Test.YtlbfgkocpjlamaaGreatDoorRenW
import Derived.Test.YtlbfgkocpjlamaaGreatDoorCrW
namespace Go.Proofs.YtlbfgkocpjlamaaGreatDoor
open Go.RowKit
theorem len_app (D : Dsk) (s m : List UInt8) : (app D s m).files.length ≤ D.files.length + 1 := length_put _ _
theorem len_ren (D : Dsk) (s t : List UInt8) : (rename D s t).files.length ≤ D.files.length + 1 := by
  have h1 := length_put ⟨t, (fileOf D s).data, (fileOf D s).synced⟩ (del s (del t D.files))
  have h2 := List.length_filter_le (fun g : Fl => !(g.name == s)) (del t D.files)
  have h3 := List.length_filter_le (fun g : Fl => !(g.name == t)) D.files
  unfold rename
  simp only
  unfold del at h1 h2 ⊢
  omega
theorem dels_len (D : Dsk) (names : List (List UInt8)) : (dels D names).files.length ≤ D.files.length := by
  induction names generalizing D with
  | nil => exact Nat.le_refl _
  | cons s r ih => exact Nat.le_trans (ih _) (List.length_filter_le _ _)

theorem crashL_length : ∀ (l : List Fl) (ps : List Int), (crashL l ps).length = l.length
  | [], _ => rfl
  | f :: r, ps => by simp [crashL, crashL_length r ps.tail]

/-- One act of a play. -/
structure PAct where
  op : Int
  name : List UInt8
  dest : List UInt8
  names : List (List UInt8)
  bytes : List UInt8
  picks : List Int

def ansApp (D : Dsk) (s m : List UInt8) : Nat := if isName s = false then 1 else if used D.files + m.length ≤ D.size then 0 else 5
def actApp (D : Dsk) (s m : List UInt8) : Dsk := if isName s = false then D else if used D.files + m.length ≤ D.size then app D s m else D
def ansNames (D : Dsk) (names : List (List UInt8)) : Nat := if hasAll D.files names = true then 0 else 4
def actSync (D : Dsk) (names : List (List UInt8)) : Dsk := if hasAll D.files names = true then syncs D names else D
def actDel (D : Dsk) (names : List (List UInt8)) : Dsk := if hasAll D.files names = true then dels D names else D
def ansRen (D : Dsk) (s t : List UInt8) : Nat := if look s D.files = none then 4 else if isName t = false then 1 else 0
def actRen (D : Dsk) (s t : List UInt8) : Dsk := if look s D.files = none then D else if isName t = false then D else if s = t then D else rename D s t
def ans (D : Dsk) (x : PAct) : Nat := if x.op = 1 then ansApp D x.name x.bytes else if x.op = 2 then ansNames D x.names else if x.op = 3 then ansRen D x.name x.dest else if x.op = 4 then ansNames D x.names else 0
def act (D : Dsk) (x : PAct) : Dsk := if x.op = 1 then actApp D x.name x.bytes else if x.op = 2 then actSync D x.names else if x.op = 3 then actRen D x.name x.dest else if x.op = 4 then actDel D x.names else if x.op = 5 then crash D x.picks else if x.op = 6 then ⟨D.size, [], D.born + 1⟩ else D

section
variable {w : World} {S : Nat → Prop} {db rb : Nat} {D : Dsk}
theorem Dk.drewN (h : Dk w S db D) (n : Nat) : Dk (w.drewN n) S db D := h.step ((Fr.refl (fun _ => False) w).drewN n) (fun _ _ _ hf => hf) (fun _ _ hs => hs)
theorem Dk.srt (h : Dk w S db D) : Srt D.files := by
  obtain ⟨_, _, _, h⟩ := h
  exact h.srt
theorem Dk.inS (h : Dk w S db D) : S db := by
  obtain ⟨_, _, _, h⟩ := h
  exact h.inS
theorem Dk.room (h : Dk w S db D) : used D.files ≤ D.size ∧ D.size ≤ 1073741824 := by
  obtain ⟨_, _, _, h⟩ := h
  exact ⟨h.room, h.size⟩
theorem Dk.names (h : Dk w S db D) : ∀ f ∈ D.files, f.name.length ≤ 64 := by
  obtain ⟨_, _, _, h⟩ := h
  exact h.names
theorem Dk.le (h : Dk w S db D) : ∀ f ∈ D.files, f.synced ≤ f.data.length := by
  obtain ⟨_, _, _, h⟩ := h
  exact fun f hf => (h.files.each f hf).le
theorem Dk.weak (h : Dk w S db D) (B : Nat) : Dk w (More S B) db D := h.mono fun _ _ hs => .inl hs
end

theorem append_all (w : World) (S : Nat → Prop) (db : Nat) (D : Dsk) (h : Dk w S db D) (s : List UInt8) (hs : s.length ≤ 140737488355328) (v : Value) (ls : List (List UInt8)) (hv : RdW w S v ls) (hcnt : D.files.length < 4611686018427387904) :
    Calls Tryz.prog 25 #[.pointer (some ⟨db, 0, none⟩), .string ⟨s.toArray⟩, v] w fun e w' => e = .returned (.int .i64 (ansApp D s ls.flatten : Int)) ∧ Dk w' (More S w.heap.size) db (actApp D s ls.flatten) ∧ Fr S w w' := by
  rcases hn : isName s with _ | _
  · refine (append_arg w db s hs v hn).mono ?_
    rintro e w' ⟨rfl, rfl⟩
    have e1 : ansApp D s ls.flatten = 1 := by simp [ansApp, hn]
    have e2 : actApp D s ls.flatten = D := by simp [actApp, hn]
    rw [e1, e2]
    exact ⟨rfl, h.weak _, Fr.refl _ _⟩
  · by_cases hf : used D.files + flen ls ≤ D.size
    · refine (append_some w S db D h s v ls hv hn hf hcnt).mono ?_
      rintro e w' ⟨rfl, h1, h2⟩
      have hf2 : used D.files + ls.flatten.length ≤ D.size := hf
      have e1 : ansApp D s ls.flatten = 0 := by simp only [ansApp, hn, hf2, if_true, Bool.true_eq_false, if_false]
      have e2 : actApp D s ls.flatten = app D s ls.flatten := by simp only [actApp, hn, hf2, if_true, Bool.true_eq_false, if_false]
      rw [e1, e2]
      exact ⟨rfl, h1, h2⟩
    · refine (append_full w S S db D h s v ls hv hn hf).mono ?_
      rintro e w' ⟨rfl, n, rfl⟩
      have hf2 : ¬ used D.files + ls.flatten.length ≤ D.size := hf
      have e1 : ansApp D s ls.flatten = 5 := by simp only [ansApp, hn, hf2, Bool.true_eq_false, if_false]
      have e2 : actApp D s ls.flatten = D := by simp only [actApp, hn, hf2, Bool.true_eq_false, if_false]
      rw [e1, e2]
      exact ⟨rfl, (h.drewN n).weak _, (Fr.refl _ _).drewN n⟩
theorem sync_all (w : World) (S : Nat → Prop) (db : Nat) (D : Dsk) (h : Dk w S db D) (v : Value) (names : List (List UInt8)) (hv : RdV w S v (names.map encStr)) (hs : ∀ s ∈ names, s.length ≤ maxLen) :
    Calls Tryz.prog 28 #[.pointer (some ⟨db, 0, none⟩), v] w fun e w' => e = .returned (.int .i64 (ansNames D names : Int)) ∧ Dk w' (More S w.heap.size) db (actSync D names) ∧ Fr S w w' := by
  rcases hn : hasAll D.files names with _ | _
  · refine (sync_no w S S db D h v names hv hs hn).mono ?_
    rintro e w' ⟨rfl, rfl⟩
    have e1 : ansNames D names = 4 := by simp [ansNames, hn]
    have e2 : actSync D names = D := by simp [actSync, hn]
    rw [e1, e2]
    exact ⟨rfl, h.weak _, Fr.refl _ _⟩
  · refine (sync_yes w S db D h v names hv hs hn).mono ?_
    rintro e w' ⟨rfl, h1, h2⟩
    have e1 : ansNames D names = 0 := by simp [ansNames, hn]
    have e2 : actSync D names = syncs D names := by simp [actSync, hn]
    rw [e1, e2]
    exact ⟨rfl, h1.weak _, h2⟩
theorem delete_all (w : World) (S : Nat → Prop) (db : Nat) (D : Dsk) (h : Dk w S db D) (v : Value) (names : List (List UInt8)) (hv : RdV w S v (names.map encStr)) (hs : ∀ s ∈ names, s.length ≤ maxLen) :
    Calls Tryz.prog 29 #[.pointer (some ⟨db, 0, none⟩), v] w fun e w' => e = .returned (.int .i64 (ansNames D names : Int)) ∧ Dk w' (More S w.heap.size) db (actDel D names) ∧ Fr S w w' := by
  rcases hn : hasAll D.files names with _ | _
  · refine (delete_no w S S db D h v names hv hs hn).mono ?_
    rintro e w' ⟨rfl, rfl⟩
    have e1 : ansNames D names = 4 := by simp [ansNames, hn]
    have e2 : actDel D names = D := by simp [actDel, hn]
    rw [e1, e2]
    exact ⟨rfl, h.weak _, Fr.refl _ _⟩
  · refine (delete_yes w S db D h v names hv hs hn).mono ?_
    rintro e w' ⟨rfl, h1, h2⟩
    have e1 : ansNames D names = 0 := by simp [ansNames, hn]
    have e2 : actDel D names = dels D names := by simp [actDel, hn]
    rw [e1, e2]
    exact ⟨rfl, h1.weak _, h2⟩
theorem rename_all (w : World) (S : Nat → Prop) (db : Nat) (D : Dsk) (h : Dk w S db D) (s t : List UInt8) (hs : s.length ≤ maxLen) (ht : t.length ≤ 140737488355328) (hcnt : D.files.length < 4611686018427387904) :
    Calls Tryz.prog 62 #[.pointer (some ⟨db, 0, none⟩), .string ⟨s.toArray⟩, .string ⟨t.toArray⟩] w fun e w' => e = .returned (.int .i64 (ansRen D s t : Int)) ∧ Dk w' (More S w.heap.size) db (actRen D s t) ∧ Fr S w w' := by
  rcases hl : look s D.files with _ | f
  · refine (rename_none w S db D h s t hs hl).mono ?_
    rintro e w' ⟨rfl, rfl⟩
    have e1 : ansRen D s t = 4 := by simp [ansRen, hl]
    have e2 : actRen D s t = D := by simp [actRen, hl]
    rw [e1, e2]
    exact ⟨rfl, h.weak _, Fr.refl _ _⟩
  · rcases hn : isName t with _ | _
    · refine (rename_arg w S db D h s t hs ht f hl hn).mono ?_
      rintro e w' ⟨rfl, rfl⟩
      have e1 : ansRen D s t = 1 := by simp [ansRen, hl, hn]
      have e2 : actRen D s t = D := by simp [actRen, hl, hn]
      rw [e1, e2]
      exact ⟨rfl, h.weak _, Fr.refl _ _⟩
    · have e1 : ansRen D s t = 0 := by simp [ansRen, hl, hn]
      rw [e1]
      by_cases he : s = t
      · subst he
        refine (rename_same w S db D h s hs f hl hn).mono ?_
        rintro e w' ⟨rfl, rfl⟩
        have e2 : actRen D s s = D := by simp [actRen, hl, hn]
        rw [e2]
        exact ⟨rfl, h.weak _, Fr.refl _ _⟩
      · refine (rename_some w S db D h s t hs hcnt f hl hn he).mono ?_
        rintro e w' ⟨rfl, h1, h2⟩
        have e2 : actRen D s t = rename D s t := by simp [actRen, hl, hn, he]
        rw [e2]
        exact ⟨rfl, h1.weak _, h2⟩
/-! ### how many files, how often lost -/
theorem syncs_len : ∀ (names : List (List UInt8)) (D : Dsk), Srt D.files → hasAll D.files names = true → (syncs D names).files.length = D.files.length
  | [], _, _, _ => rfl
  | s :: r, D, hs, ha => by
    have h1 : (look s D.files).isSome = true := hasAll_mem ha (by simp)
    obtain ⟨f, hf⟩ := Option.isSome_iff_exists.1 h1
    obtain ⟨hm, hn⟩ := look_some hf
    have h2 : (sync1 D s).files.length = D.files.length := length_same hs hm (by simp [hn])
    have h3 : hasAll (sync1 D s).files r = true := List.all_eq_true.2 fun t ht => by
      rw [look_sync1 D hs]
      have := hasAll_mem ha (List.mem_cons_of_mem s ht)
      simp [this]
    have h4 := syncs_len r (sync1 D s) (hs.put _) h3
    exact h4.trans h2
theorem act_len (D : Dsk) (h : Srt D.files) (x : PAct) : (act D x).files.length ≤ D.files.length + 1 := by
  unfold act
  split
  · unfold actApp
    split
    · omega
    · split
      · exact len_app _ _ _
      · omega
  · split
    · unfold actSync
      split
      · rename_i ha
        rw [syncs_len _ _ h ha]
        omega
      · omega
    · split
      · unfold actRen
        split
        · omega
        · split
          · omega
          · split
            · omega
            · exact len_ren _ _ _
      · split
        · unfold actDel
          split
          · exact Nat.le_trans (dels_len _ _) (Nat.le_succ _)
          · omega
        · split
          · show (crashL D.files x.picks).length ≤ _
            rw [crashL_length]
            omega
          · split
            · simp
            · omega
theorem act_born (D : Dsk) (x : PAct) : (act D x).born ≤ D.born + 1 := by
  have h1 : ∀ (names : List (List UInt8)) (E : Dsk), (syncs E names).born = E.born := fun names => by
    induction names with
    | nil => exact fun _ => rfl
    | cons s r ih => exact fun E => ih (sync1 E s)
  have h2 : ∀ (names : List (List UInt8)) (E : Dsk), (dels E names).born = E.born := fun names => by
    induction names with
    | nil => exact fun _ => rfl
    | cons s r ih => exact fun E => ih (del1 E s)
  unfold act actApp actSync actRen actDel
  repeat' split
  all_goals first
    | omega
    | (rw [h1]; omega)
    | (rw [h2]; omega)
    | exact Nat.le_succ _
    | exact Nat.le_refl _
end Go.Proofs.YtlbfgkocpjlamaaGreatDoor
