/-
  What is told when the least head of all sources is told, and all heads of its place are passed by: the merged list.
-/
import Derived.Test.YteclnnjijfbfoaaMgN
namespace Go.Proofs.Yteclnnjijfbfoaa

theorem inM_of : ∀ {ls : List (List Ent)} {k : Nat} {l : List Ent} {x : Ent}, ls[k]? = some l → x ∈ l → (∀ j m y, j < k → ls[j]? = some m → y ∈ m → atE y x = false) → InM ls x
  | [], _, _, _, h, _, _ => by simp at h
  | m :: r, 0, l, x, h, hx, _ => by
    obtain rfl := Option.some.inj h
    exact .inl hx
  | m :: r, k + 1, l, x, h, hx, hj => .inr ⟨inM_of (k := k) (by simpa using h) hx (fun j m' y h1 h2 h3 => hj (j + 1) m' y (by omega) (by simpa using h2) h3), fun y hy => hj 0 m y (by omega) rfl hy⟩
theorem srt_at_eq {l : List Ent} (h : SrtE l) {x y : Ent} (hx : x ∈ l) (hy : y ∈ l) (ha : atE x y = true) : x = y := by
  obtain ⟨i, hi, rfl⟩ := List.getElem_of_mem hx
  obtain ⟨j, hj, rfl⟩ := List.getElem_of_mem hy
  rcases Nat.lt_trichotomy i j with hij | rfl | hij
  · rw [lessE_not_at (srt_at h hj hij)] at ha; cases ha
  · rfl
  · have := lessE_not_at (srt_at h hi hij)
    rw [atE_symm ha] at this; cases this
theorem inM_eq : ∀ {ls : List (List Ent)} {x y : Ent}, (∀ l ∈ ls, SrtE l) → InM ls x → InM ls y → atE x y = true → x = y
  | [], _, _, _, h, _, _ => h.elim
  | l :: r, x, y, hs, hx, hy, ha => by
    rcases hx with hx | ⟨hx, hxl⟩
    · rcases hy with hy | ⟨hy, hyl⟩
      · exact srt_at_eq (hs l (by simp)) hx hy ha
      · rw [hyl x hx] at ha; cases ha
    · rcases hy with hy | ⟨hy, hyl⟩
      · have := hxl y hy
        rw [atE_symm ha] at this; cases this
      · exact inM_eq (fun l hl => hs l (by simp [hl])) hx hy ha

structure MSt (ls : List (List Ent)) (hs : List Hd) (out : List Ent) : Prop where
  hd : ∀ h ∈ hs, ∃ l, ls[h.num]? = some l ∧ (h.e :: h.rest) <:+ l
  num : hs.Pairwise fun a b => a.num ≠ b.num
  srt : SrtE out
  mem : ∀ x ∈ out, InM ls x
  cov : ∀ k l y, ls[k]? = some l → y ∈ l → (∃ h ∈ hs, h.num = k ∧ y ∈ h.e :: h.rest) ∨ ∃ x ∈ out, atE x y = true
  low : ∀ x ∈ out, ∀ h ∈ hs, lessE x h.e = true ∨ atE x h.e = true
def Top (hs : List Hd) (out : List Ent) : Prop := ∀ x ∈ out, ∀ h ∈ hs, lessE x h.e = true
theorem MSt.perm {ls : List (List Ent)} {hs ks : List Hd} {out : List Ent} (h : MSt ls hs out) (p : ks.Perm hs) : MSt ls ks out :=
  ⟨fun x hx => h.hd x (p.mem_iff.1 hx), (p.pairwise_iff (fun h e => h e.symm)).2 h.num, h.srt, h.mem,
    fun k l y h1 h2 => (h.cov k l y h1 h2).imp (fun ⟨x, hx, h3⟩ => ⟨x, p.mem_iff.2 hx, h3⟩) id, fun x hx g hg => h.low x hx g (p.mem_iff.1 hg)⟩
theorem Top.perm {hs ks : List Hd} {out : List Ent} (h : Top hs out) (p : ks.Perm hs) : Top ks out := fun x hx g hg => h x hx g (p.mem_iff.1 hg)
theorem suf_srt {l s : List Ent} (h : SrtE l) (hs : s <:+ l) : SrtE s := List.Pairwise.sublist hs.sublist h
theorem leH_e {a b : Hd} (h : leH a b) : lessE a.e b.e = true ∨ atE a.e b.e = true := (leH_iff.1 h).imp id And.left
theorem less_or_trans {a b c : Ent} (h : lessE a b = true) (k : lessE b c = true ∨ atE b c = true) : lessE a c = true := by
  rcases k with k | k
  · exact lessE_trans h k
  · rw [← lessE_at_right k]; exact h
/-- The least head is told. -/
theorem MSt.tell {ls : List (List Ent)} {hs : List Hd} {out : List Ent} (hls : ∀ l ∈ ls, SrtE l) (h : MSt ls hs out) (ht : Top hs out) {a : Hd} (ha : a ∈ hs) (hm : ∀ b ∈ hs, leH a b) : MSt ls hs (out ++ [a.e]) := by
  refine ⟨h.hd, h.num, srt_snoc h.srt fun y hy => ht y hy a ha, fun x hx => ?_, fun k l y h1 h2 => ?_, fun x hx g hg => ?_⟩
  · rcases List.mem_append.1 hx with hx | hx
    · exact h.mem x hx
    · obtain rfl := List.mem_singleton.1 hx
      obtain ⟨l, hl, hsuf⟩ := h.hd a ha
      refine inM_of hl (hsuf.subset (by simp)) fun j m y hj hm' hy => ?_
      rcases e : atE y a.e with _ | _
      · rfl
      · exfalso
        rcases h.cov j m y hm' hy with ⟨b, hb, hbn, hyb⟩ | ⟨x, hx, hxy⟩
        · have hab := leH_iff.1 (hm b hb)
          obtain ⟨lb, hlb, hsb⟩ := h.hd b hb
          have hsr := suf_srt (hls lb (List.mem_of_getElem? hlb)) hsb
          rcases List.mem_cons.1 hyb with rfl | hyb
          · rcases hab with hab | ⟨_, hab⟩
            · have h3 := lessE_not_at hab
              rw [atE_symm e] at h3
              cases h3
            · omega
          · have hby := (List.pairwise_cons.1 hsr).1 y hyb
            have hay : lessE a.e y = true := by
              rcases hab with hab | ⟨hab, _⟩
              · exact lessE_trans hab hby
              · rw [lessE_at_left hab]; exact hby
            have := lessE_not_at hay
            rw [atE_symm e] at this; cases this
        · have h3 := lessE_not_at (ht x hx a ha)
          rw [atE_trans hxy e] at h3; cases h3
  · exact (h.cov k l y h1 h2).imp id fun ⟨x, hx, h3⟩ => ⟨x, by simp [hx], h3⟩
  · rcases List.mem_append.1 hx with hx | hx
    · exact h.low x hx g hg
    · obtain rfl := List.mem_singleton.1 hx
      exact leH_e (hm g hg)
/-- A head of the place that was told last is passed by; its source has more. -/
theorem MSt.more {ls : List (List Ent)} {t : List Hd} {out : List Ent} {a b : Hd} (hls : ∀ l ∈ ls, SrtE l) (h : MSt ls (a :: t) out) {f : Ent} (hf : f ∈ out) (hfa : atE a.e f = true) (hn : b.num = a.num) (hr : a.rest = b.e :: b.rest) : MSt ls (b :: t) out := by
  obtain ⟨l, hl, hsuf⟩ := h.hd a (by simp)
  have hs2 : (b.e :: b.rest) <:+ l := by rw [← hr]; exact (List.suffix_cons _ _).trans hsuf
  obtain ⟨hp1, hp2⟩ := List.pairwise_cons.1 h.num
  refine ⟨fun g hg => ?_, List.pairwise_cons.2 ⟨fun g hg => by rw [hn]; exact hp1 g hg, hp2⟩, h.srt, h.mem, fun k m y h1 h2 => ?_, fun x hx g hg => ?_⟩
  · rcases List.mem_cons.1 hg with rfl | hg
    · exact ⟨l, by rw [hn]; exact hl, hs2⟩
    · exact h.hd g (by simp [hg])
  · rcases h.cov k m y h1 h2 with ⟨g, hg, h3, h4⟩ | h3
    · rcases List.mem_cons.1 hg with rfl | hg
      · rcases List.mem_cons.1 h4 with rfl | h4
        · exact .inr ⟨f, hf, atE_symm hfa⟩
        · exact .inl ⟨b, by simp, hn.trans h3, by rw [← hr]; exact h4⟩
      · exact .inl ⟨g, by simp [hg], h3, h4⟩
    · exact .inr h3
  · rcases List.mem_cons.1 hg with rfl | hg
    · have hab : lessE a.e g.e = true := (List.pairwise_cons.1 (suf_srt (hls l (List.mem_of_getElem? hl)) hsuf)).1 g.e (by rw [hr]; simp)
      rcases h.low x hx a (by simp) with h3 | h3
      · exact .inl (lessE_trans h3 hab)
      · exact .inl (by rw [lessE_at_left h3]; exact hab)
    · exact h.low x hx g (by simp [hg])
/-- .. its source has ended. -/
theorem MSt.less {ls : List (List Ent)} {t : List Hd} {out : List Ent} {a : Hd} (h : MSt ls (a :: t) out) {f : Ent} (hf : f ∈ out) (hfa : atE a.e f = true) (hr : a.rest = []) : MSt ls t out := by
  obtain ⟨hp1, hp2⟩ := List.pairwise_cons.1 h.num
  refine ⟨fun g hg => h.hd g (by simp [hg]), hp2, h.srt, h.mem, fun k m y h1 h2 => ?_, fun x hx g hg => h.low x hx g (by simp [hg])⟩
  rcases h.cov k m y h1 h2 with ⟨g, hg, h3, h4⟩ | h3
  · rcases List.mem_cons.1 hg with rfl | hg
    · rw [hr] at h4
      obtain rfl := List.mem_singleton.1 h4
      exact .inr ⟨f, hf, atE_symm hfa⟩
    · exact .inl ⟨g, hg, h3, h4⟩
  · exact .inr h3
/-- No head is at the place that was told last. -/
theorem MSt.top {ls : List (List Ent)} {hs : List Hd} {o : List Ent} {f : Ent} (h : MSt ls hs (o ++ [f])) {a : Hd} (ha : a ∈ hs) (hm : ∀ b ∈ hs, leH a b) (hfa : atE a.e f = false) : Top hs (o ++ [f]) := by
  have hlast : ∀ g ∈ hs, lessE f g.e = true := fun g hg => by
    rcases h.low f (by simp) a ha with h3 | h3
    · exact less_or_trans h3 (leH_e (hm g hg))
    · rw [atE_symm h3] at hfa; cases hfa
  intro x hx g hg
  rcases List.mem_append.1 hx with hx | hx
  · have := List.pairwise_append.1 h.srt
    exact lessE_trans (this.2.2 x hx f (by simp)) (hlast g hg)
  · obtain rfl := List.mem_singleton.1 hx
    exact hlast g hg
theorem Top.nil (out : List Ent) : Top [] out := fun x _ g hg => by cases hg
theorem MSt.done {ls : List (List Ent)} {out : List Ent} (hls : ∀ l ∈ ls, SrtE l) (h : MSt ls [] out) : MgE ls out := by
  refine ⟨h.srt, fun x => ⟨h.mem x, fun hx => ?_⟩⟩
  obtain ⟨l, hl, hxl⟩ := inM_mem hx
  obtain ⟨k, hk⟩ := List.getElem?_of_mem hl
  rcases h.cov k l x hk hxl with ⟨g, hg, _⟩ | ⟨y, hy, ha⟩
  · cases hg
  · have := inM_eq hls (h.mem y hy) hx ha
    exact this ▸ hy
/-! ### at the beginning: the heads of all lists up to one -/
structure HdsI (ls : List (List Ent)) (n : Nat) (hs : List Hd) : Prop where
  hd : ∀ h ∈ hs, ls[h.num]? = some (h.e :: h.rest) ∧ h.num < n
  num : hs.Pairwise fun a b => a.num ≠ b.num
  all : ∀ k l, k < n → ls[k]? = some l → l ≠ [] → ∃ h ∈ hs, h.num = k
  few : hs.length ≤ n
theorem HdsI.zero (ls : List (List Ent)) : HdsI ls 0 [] := ⟨(fun h hh => by cases hh), by simp, (fun k l h => by omega), by simp⟩
theorem HdsI.put {ls : List (List Ent)} {n : Nat} {hs : List Hd} (h : HdsI ls n hs) {b : Hd} (hn : b.num = n) (hl : ls[n]? = some (b.e :: b.rest)) : HdsI ls (n + 1) (hs ++ [b]) := by
  refine ⟨fun g hg => ?_, ?_, fun k l h1 h2 h3 => ?_, by have := h.few; simp; omega⟩
  · rcases List.mem_append.1 hg with hg | hg
    · exact ⟨(h.hd g hg).1, Nat.lt_succ_of_lt (h.hd g hg).2⟩
    · obtain rfl := List.mem_singleton.1 hg
      exact ⟨by rw [hn]; exact hl, by omega⟩
  · rw [List.pairwise_append]
    exact ⟨h.num, by simp, fun x hx y hy => by rw [List.mem_singleton.1 hy, hn]; exact Nat.ne_of_lt (h.hd x hx).2⟩
  · by_cases e : k = n
    · exact ⟨b, by simp, by omega⟩
    · obtain ⟨g, hg, h4⟩ := h.all k l (by omega) h2 h3
      exact ⟨g, by simp [hg], h4⟩
theorem HdsI.skip {ls : List (List Ent)} {n : Nat} {hs : List Hd} (h : HdsI ls n hs) (hl : ls[n]? = some []) : HdsI ls (n + 1) hs := by
  refine ⟨fun g hg => ⟨(h.hd g hg).1, Nat.lt_succ_of_lt (h.hd g hg).2⟩, h.num, fun k l h1 h2 h3 => ?_, by have := h.few; omega⟩
  by_cases e : k = n
  · subst e
    rw [hl] at h2
    exact absurd (Option.some.inj h2).symm h3
  · exact h.all k l (by omega) h2 h3
theorem HdsI.start {ls : List (List Ent)} {hs : List Hd} (h : HdsI ls ls.length hs) : MSt ls hs [] ∧ Top hs [] := by
  refine ⟨⟨fun g hg => ⟨_, (h.hd g hg).1, List.suffix_refl _⟩, h.num, by simp [SrtE], (fun x hx => by cases hx), fun k l y h1 h2 => .inl ?_, (fun x hx => by cases hx)⟩, fun x hx => by cases hx⟩
  obtain ⟨g, hg, h3⟩ := h.all k l (List.getElem?_eq_some_iff.1 h1).1 h1 (fun e => by rw [e] at h2; cases h2)
  refine ⟨g, hg, h3, ?_⟩
  have := (h.hd g hg).1
  rw [h3, h1] at this
  rw [← Option.some.inj this]
  exact h2
end Go.Proofs.Yteclnnjijfbfoaa
