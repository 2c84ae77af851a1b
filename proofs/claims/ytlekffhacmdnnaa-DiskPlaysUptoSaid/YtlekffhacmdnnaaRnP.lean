/-
  Plain facts for the laws on disks: what is looked up behind an append, a sync, a rename, a crash.
-/
import Derived.Test.YtlekffhacmdnnaaCrW
namespace Go.Proofs.Ytlekffhacmdnnaa

theorem look_app {D : Dsk} (h : Srt D.files) (s m : List UInt8) : look s (app D s m).files = some ⟨s, (fileOf D s).data ++ m, (fileOf D s).synced⟩ := look_put h ⟨s, (fileOf D s).data ++ m, (fileOf D s).synced⟩
theorem look_app_other {D : Dsk} (h : Srt D.files) (s m : List UInt8) {t : List UInt8} (ht : t ≠ s) : look t (app D s m).files = look t D.files := look_put_other h ⟨s, (fileOf D s).data ++ m, (fileOf D s).synced⟩ ht
theorem look_syn {D : Dsk} (h : Srt D.files) (s : List UInt8) : look s (syncs D [s]).files = some ⟨s, (fileOf D s).data, (fileOf D s).data.length⟩ := look_put h ⟨s, (fileOf D s).data, (fileOf D s).data.length⟩
theorem look_syn_other {D : Dsk} (h : Srt D.files) (s : List UInt8) {t : List UInt8} (ht : t ≠ s) : look t (syncs D [s]).files = look t D.files := look_put_other h ⟨s, (fileOf D s).data, (fileOf D s).data.length⟩ ht
theorem srt_app {D : Dsk} (h : Srt D.files) (s m : List UInt8) : Srt (app D s m).files := h.put _
theorem srt_syn {D : Dsk} (h : Srt D.files) (s : List UInt8) : Srt (syncs D [s]).files := h.put _
theorem srt_ren {D : Dsk} (h : Srt D.files) (s t : List UInt8) : Srt (rename D s t).files := ((h.del _).del _).put _
theorem len_app (D : Dsk) (s m : List UInt8) : (app D s m).files.length ≤ D.files.length + 1 := length_put _ _
theorem len_syn (D : Dsk) (s : List UInt8) : (syncs D [s]).files.length ≤ D.files.length + 1 := length_put _ _
theorem len_ren (D : Dsk) (s t : List UInt8) : (rename D s t).files.length ≤ D.files.length + 1 := by
  have h1 := length_put ⟨t, (fileOf D s).data, (fileOf D s).synced⟩ (del s (del t D.files))
  have h2 := List.length_filter_le (fun g : Fl => !(g.name == s)) (del t D.files)
  have h3 := List.length_filter_le (fun g : Fl => !(g.name == t)) D.files
  unfold rename
  simp only
  unfold del at h1 h2 ⊢
  omega
theorem look_ren {D : Dsk} (h : Srt D.files) (s t : List UInt8) : look t (rename D s t).files = some ⟨t, (fileOf D s).data, (fileOf D s).synced⟩ := look_put ((h.del _).del _) ⟨t, (fileOf D s).data, (fileOf D s).synced⟩
theorem used_app {D : Dsk} (h : Srt D.files) (s m : List UInt8) : used (app D s m).files = used D.files + m.length := by
  have h1 := made_used D h s (fun _ : Unit => m) ()
  have h2 := congrArg Dsk.files (made_app D h s m)
  simp only at h1 h2
  rw [← h2]
  exact h1
theorem used_syn {D : Dsk} (h : Srt D.files) {s : List UInt8} {f : Fl} (hl : look s D.files = some f) : used (syncs D [s]).files = used D.files := by
  obtain ⟨hm, hn⟩ := look_some hl
  show used (put ⟨s, (fileOf D s).data, (fileOf D s).data.length⟩ D.files) = _
  rw [fileOf_look hl]
  exact used_same h hm hn.symm rfl
theorem fileOf_none {D : Dsk} {s : List UInt8} (h : look s D.files = none) : fileOf D s = ⟨s, [], 0⟩ := by simp [fileOf, h]
theorem look_hit {g : Fl} {s : List UInt8} (e : g.name = s) (r : List Fl) : look s (g :: r) = some g := by simp [look, e]
theorem look_miss {g : Fl} {s : List UInt8} (e : ¬ g.name = s) (r : List Fl) : look s (g :: r) = look s r := by simp [look, e]
theorem look_crash : ∀ (l : List Fl) (ps : List Int) {s : List UInt8} {f : Fl}, look s l = some f → ∃ p, look s (crashL l ps) = some (torn f p)
  | [], _, _, _, h => by simp [look] at h
  | g :: r, ps, s, f, h => by
    by_cases e : g.name = s
    · rw [look_hit e] at h
      obtain rfl : g = f := by simpa using h
      exact ⟨ps.headD 0, look_hit (g := torn g (ps.headD 0)) e _⟩
    · rw [look_miss e] at h
      obtain ⟨p, hp⟩ := look_crash r ps.tail h
      exact ⟨p, (look_miss (g := torn g (ps.headD 0)) e _).trans hp⟩
theorem torn_full (f : Fl) (p : Int) (h : f.synced = f.data.length) : (torn f p).data = f.data := by
  show f.data.take (f.synced + kept p (f.data.length - f.synced)) = f.data
  apply List.take_of_length_le
  omega
theorem hasOne {l : List Fl} {s : List UInt8} {f : Fl} (h : look s l = some f) : hasAll l [s] = true := by simp [hasAll, h]
theorem srt_nil (n b : Nat) : Srt (⟨n, [], b⟩ : Dsk).files := List.Pairwise.nil

/-! ### the disk of the law on renames: a disk of 1 << 20 bytes -/
def rd0 : Dsk := ⟨1048576, [], 0⟩
def rd2 (a : List UInt8) : Dsk := syncs (app rd0 [102] a) [[102]]
def rd3 (a b : List UInt8) : Dsk := app (rd2 a) [102, 46, 116, 109, 112] b
def rd4 (a b : List UInt8) : Dsk := syncs (rd3 a b) [[102, 46, 116, 109, 112]]
def rd5 (a b : List UInt8) : Dsk := rename (rd4 a b) [102, 46, 116, 109, 112] [102]
section
variable (a b : List UInt8)
theorem rd1_srt : Srt (app rd0 [102] a).files := srt_app (srt_nil _ _) _ _
theorem rd2_srt : Srt (rd2 a).files := srt_syn (rd1_srt a) _
theorem rd3_srt : Srt (rd3 a b).files := srt_app (rd2_srt a) _ _
theorem rd4_srt : Srt (rd4 a b).files := srt_syn (rd3_srt a b) _
theorem rd5_srt : Srt (rd5 a b).files := srt_ren (rd4_srt a b) _ _
theorem rd1_look : look [102] (app rd0 [102] a).files = some ⟨[102], a, 0⟩ := by
  have := look_app (srt_nil 1048576 0) [102] a
  exact this
theorem rd2_look : look [102] (rd2 a).files = some ⟨[102], a, a.length⟩ := by
  have := look_syn (rd1_srt a) [102]
  rw [fileOf_look (rd1_look a)] at this
  exact this
theorem rd2_tmp : look [102, 46, 116, 109, 112] (rd2 a).files = none := by
  have h1 := look_syn_other (rd1_srt a) [102] (t := [102, 46, 116, 109, 112]) (by decide)
  have h2 := look_app_other (srt_nil 1048576 0) [102] a (t := [102, 46, 116, 109, 112]) (by decide)
  exact h1.trans h2
theorem rd3_look : look [102] (rd3 a b).files = some ⟨[102], a, a.length⟩ := (look_app_other (rd2_srt a) _ b (by decide)).trans (rd2_look a)
theorem rd3_tmp : look [102, 46, 116, 109, 112] (rd3 a b).files = some ⟨[102, 46, 116, 109, 112], b, 0⟩ := by
  have := look_app (rd2_srt a) [102, 46, 116, 109, 112] b
  rw [fileOf_none (rd2_tmp a)] at this
  exact this
theorem rd4_look : look [102] (rd4 a b).files = some ⟨[102], a, a.length⟩ := (look_syn_other (rd3_srt a b) _ (by decide)).trans (rd3_look a b)
theorem rd4_tmp : look [102, 46, 116, 109, 112] (rd4 a b).files = some ⟨[102, 46, 116, 109, 112], b, b.length⟩ := by
  have := look_syn (rd3_srt a b) [102, 46, 116, 109, 112]
  rw [fileOf_look (rd3_tmp a b)] at this
  exact this
theorem rd5_look : look [102] (rd5 a b).files = some ⟨[102], b, b.length⟩ := by
  have := look_ren (rd4_srt a b) [102, 46, 116, 109, 112] [102]
  rw [fileOf_look (rd4_tmp a b)] at this
  exact this
theorem rd1_used : used (app rd0 [102] a).files = a.length := by
  have := used_app (srt_nil 1048576 0) [102] a
  rw [show used (⟨1048576, [], 0⟩ : Dsk).files = 0 from rfl, Nat.zero_add] at this
  exact this
theorem rd2_used : used (rd2 a).files = a.length := (used_syn (rd1_srt a) (rd1_look a)).trans (rd1_used a)
theorem rd1_len : (app rd0 [102] a).files.length ≤ 1 := len_app rd0 [102] a
theorem rd2_len : (rd2 a).files.length ≤ 2 := Nat.le_trans (len_syn _ _) (by have := rd1_len a; omega)
theorem rd3_len : (rd3 a b).files.length ≤ 3 := Nat.le_trans (len_app _ _ _) (by have := rd2_len a; omega)
theorem rd4_len : (rd4 a b).files.length ≤ 4 := Nat.le_trans (len_syn _ _) (by have := rd3_len a b; omega)
theorem rd5_len : (rd5 a b).files.length ≤ 5 := Nat.le_trans (len_ren _ _ _) (by have := rd4_len a b; omega)
theorem crash_look {D : Dsk} {f : Fl} {s : List UInt8} (h : look s D.files = some f) (hs : f.synced = f.data.length) (ps : List Int) : ∃ g, look s (crash D ps).files = some g ∧ g.data = f.data := by
  obtain ⟨p, hp⟩ := look_crash D.files ps h
  exact ⟨_, hp, torn_full f p hs⟩
end
end Go.Proofs.Ytlekffhacmdnnaa
