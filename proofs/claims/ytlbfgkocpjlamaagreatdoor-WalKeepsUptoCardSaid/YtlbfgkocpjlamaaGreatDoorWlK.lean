/-
  The calls of a log, told by its segments' payloads.
-/
import Derived.Test.YtlbfgkocpjlamaaGreatDoorWlZ
import Derived.Test.YtlbfgkocpjlamaaGreatDoorWlO
namespace Go.Proofs.YtlbfgkocpjlamaaGreatDoor
open Go.RowKit

theorem open_new (w : World) (S : Nat → Prop) (db : Nat) (nm : List UInt8) (D : Dsk) (h : Dn w S db D) (hT : Tb w) (first : Nat) (hnm : isLog nm = true) (hf : D.files = []) (hmax : first ≤ 999997) :
    Calls Tryz.prog 9 #[.pointer (some ⟨db, 0, none⟩), .string ⟨nm.toArray⟩, .int .i64 (first : Int)] w fun e w' => ∃ v lb, e = .returned (.tuple #[.pointer (some ⟨lb, 0, none⟩), v, .int .i64 0]) ∧ w.heap.size ≤ lb ∧ ∃ S', RowW w' S' w.heap.size v [] ∧
      Lg w S lb db first nm S' w' (logD D nm first [] [] 0) := by
  have hl : ∀ s, look s D.files = none := fun s => by rw [hf]; rfl
  have happ : app D (segName nm first) [] = logD D nm first [] [] 0 := by
    unfold app
    rw [show fileOf D (segName nm first) = ⟨segName nm first, [], 0⟩ by simp [fileOf, hl], hf]
    rfl
  have hM : finM first first [] = first := rfl
  have ho := open_any w S db nm D h hT first [] [] hnm (fun k c hk => by simp at hk) (hl _) (by simp; omega) (fun k c hk _ => by simp at hk) (fun c hc => by simp at hc) (fun c hc => by cases hc) (hl _) (by rw [hf]; simp) (by simp [toldOf]) D (finD_ok fun c hc => by simp at hc)
    (by show (namesOf D.files).filter _ = _; rw [hf]; rfl) (fun n hn => by cases hn) (by
      rw [hM, happ, show first + 1 - first = 0 + 1 by omega, nums_snoc]
      have := logD_look (D := D) (nm := nm) (first := first) (old := []) (c := []) (y := 0) (by simp; omega)
      simp only [List.length_nil, Nat.add_zero] at this
      simp [hasAll, segs, nums, this])
  rw [hM, happ, show first + 1 - first = ([] : List (List (List UInt8))).length + 1 by simp, syncs_logD (by simp; omega)] at ho
  exact ho

theorem open_log (w : World) (S : Nat → Prop) (db : Nat) (nm : List UInt8) (D : Dsk) (first : Nat) (old : List (List (List UInt8))) (ls : List (List UInt8)) (n y : Nat) (h : Dn w S db (logD D nm first old ((frames ls).take n) y)) (hT : Tb w) (hnm : isLog nm = true) (hn : n ≤ (frames ls).length)
    (hmax : first + old.length ≤ 999996) (hold : ∀ x ∈ old, ∀ l ∈ x, l.length ≤ 67108864) (hls : ∀ l ∈ ls, l.length ≤ 67108864) (hroom : (old.map fun ls => (frames ls).length).sum + 2 * (frames ls).length ≤ D.size) (hmany : old.flatten.length + ls.length ≤ 1099511627776) :
    Calls Tryz.prog 9 #[.pointer (some ⟨db, 0, none⟩), .string ⟨nm.toArray⟩, .int .i64 (first : Int)] w fun e w' => ∃ v lb, e = .returned (.tuple #[.pointer (some ⟨lb, 0, none⟩), v, .int .i64 0]) ∧ w.heap.size ≤ lb ∧ ∃ S', RowW w' S' w.heap.size v (old.flatten ++ ls.take (wh ls n).1) ∧
      Lg w S lb db (first + old.length) nm S' w' (logD D nm first old (frames (ls.take (wh ls n).1)) (frames (ls.take (wh ls n).1)).length) := by
  obtain ⟨hw1, hw2, hw3⟩ := wh_frames ls n
  have hcl : ((frames ls).take n).length = n := by rw [List.length_take]; omega
  have hfr := rdFrames_front ls n hls hn
  have hwt := wh_take ls n
  have htk : ((frames ls).take n).take (wh ls n).2 = frames (ls.take (wh ls n).1) := by
    rw [List.take_take, Nat.min_eq_left hw3, hwt]
  have hlt : first + old.length < 1000000 := by omega
  have hcsl : (old.map frames ++ [(frames ls).take n]).length = old.length + 1 := by simp
  have hlast : (old.map frames ++ [(frames ls).take n]).getLast? = some ((frames ls).take n) := by simp
  have hM : finM first first (old.map frames ++ [(frames ls).take n]) = first + old.length := by
    unfold finM
    rw [hcsl, if_neg (by omega)]
    omega
  have hD2 : ∃ y2, finD (logD D nm first old ((frames ls).take n) y) nm first (old.map frames ++ [(frames ls).take n]) = logD D nm first old (frames (ls.take (wh ls n).1)) y2 := by
    by_cases he : (wh ls n).2 = n
    · refine ⟨y, ?_⟩
      rw [finD_ok fun c hc => ?_]
      · rw [← htk, he, List.take_take, Nat.min_self]
      · rw [hlast] at hc
        obtain rfl := Option.some.inj hc
        rw [hfr, if_pos he]
    · refine ⟨(frames (ls.take (wh ls n).1)).length, ?_⟩
      rw [finD_torn hlast (by rw [hfr, if_neg he]; show (11 : Nat) ≠ 0; decide), hfr]
      simp only
      rw [hcsl, show first + (old.length + 1) - 1 = first + old.length by omega, htk, hw2]
      exact congrArg (fun l => Dsk.mk D.size l D.born) (logF_put hlt)
  obtain ⟨y2, hD2⟩ := hD2
  have hrl : ∀ x ∈ old, (rdFrames (frames x)).2 = ((frames x).length, 0) := fun x hx => by rw [rdFrames_whole x (hold x hx)]
  have ho := open_any w S db nm _ h hT first (old.map frames ++ [(frames ls).take n]) (nums first (old.length + 1)) hnm
    (fun k c hk => by
      rcases Nat.lt_or_ge k old.length with h1 | h1
      · rw [List.getElem?_append_left (by simpa using h1), List.getElem?_map, List.getElem?_eq_getElem h1] at hk
        obtain rfl : frames old[k] = c := by simpa using hk
        exact ⟨_, logF_old hlt (List.getElem?_eq_getElem h1)⟩
      · have h2 := (List.getElem?_eq_some_iff.1 hk).1
        rw [hcsl] at h2
        obtain rfl : k = old.length := by omega
        rw [List.getElem?_append_right (by simp)] at hk
        obtain rfl : (frames ls).take n = c := by simpa using hk
        exact ⟨y, logD_look hlt⟩)
    (by rw [hcsl]; exact logF_none (by omega) (by omega) (by omega)) (by rw [hcsl]; omega)
    (fun k c hk hc => by
      rw [hcsl] at hk
      rw [List.getElem?_append_left (by simp; omega), List.getElem?_map, List.getElem?_eq_getElem (show k < old.length by omega)] at hc
      obtain rfl : frames old[k] = c := by simpa using hc
      rw [hrl _ (List.getElem_mem _)])
    (fun c hc => by
      rw [hlast] at hc
      obtain rfl := Option.some.inj hc
      rw [hfr, used_logD, hcl]
      show _ ≤ D.size
      simp only
      omega)
    (fun c hc => by
      rcases List.mem_append.1 hc with hc | hc
      · obtain ⟨x, hx, rfl⟩ := List.mem_map.1 hc
        rw [hrl x hx]
        exact Nat.le_refl _
      · obtain rfl := List.mem_singleton.1 hc
        rw [hfr, hcl]
        exact hw3)
    (tmp_none nm first old _ _) (by rw [logD_count]; omega) (by
      rw [toldOf_old old hold, hfr, List.length_append, List.length_take]
      omega)
    _ hD2 (logD_segs _ _ _ _ _ _) (fun k hk => by
      have := mem_nums hk
      rw [hM]
      omega)
    (by
      rw [hM, app_first hlt, show first + old.length + 1 - first = old.length + 1 by omega]
      refine List.all_eq_true.2 fun s hs => ?_
      obtain ⟨k, hk, rfl⟩ := List.mem_map.1 hs
      exact (logD_segs D nm first old _ y2).has hk)
  rw [hM, app_first hlt, show first + old.length + 1 - first = old.length + 1 by omega, syncs_logD hlt, toldOf_old old hold, hfr] at ho
  exact ho

theorem sync_lf (w : World) (S : Nat → Prop) (lb db : Nat) (nm : List UInt8) (D : Dsk) (first : Nat) (old : List (List (List UInt8))) (c : List UInt8) (y : Nat) (h : Lg w S lb db (first + old.length) nm S w (logD D nm first old c y)) (hnm : isLog nm = true) (hmax : first + old.length ≤ 999996) :
    Calls Tryz.prog 11 #[.pointer (some ⟨lb, 0, none⟩)] w fun e w' => e = .returned (.int .i64 0) ∧ ∃ S', Lg w S lb db (first + old.length) nm S' w' (logD D nm first old c c.length) := by
  have hnl := isLog_len hnm
  have hl := logD_look (D := D) (nm := nm) (c := c) (y := y) (show first + old.length < 1000000 by omega)
  have hA : hasAll (logD D nm first old c y).files [segName nm (first + old.length)] = true := by simp [hasAll, hl]
  have hs := sync_log w S lb db (first + old.length) nm _ h.log h.dn h.tb (by omega) (by omega)
  rw [show ansNames (logD D nm first old c y) [segName nm (first + old.length)] = 0 by simp [ansNames, hA],
    show actSync (logD D nm first old c y) [segName nm (first + old.length)] = logD D nm first old c c.length by
      simp only [actSync, hA, if_true]
      exact sync_logD (by omega)] at hs
  exact hs.mono fun e w' ⟨he, hfr, S', hd, hx⟩ => ⟨he, S', h.ext hfr hd hx⟩

theorem append_lf (w : World) (S : Nat → Prop) (lb db : Nat) (nm : List UInt8) (D : Dsk) (first : Nat) (old : List (List (List UInt8))) (c : List UInt8) (y : Nat) (h : Lg w S lb db (first + old.length) nm S w (logD D nm first old c y)) (hnm : isLog nm = true) (hmax : first + old.length ≤ 999996)
    (v : Value) (ls : List (List UInt8)) (hv : RdL w w.heap.size v ls) (hls : ∀ l ∈ ls, l.length ≤ 67108864) (hr : roomC ls ≤ 140737488355000) (hroom : (old.map fun ls => (frames ls).length).sum + c.length + (frames ls).length ≤ D.size) :
    Calls Tryz.prog 10 #[.pointer (some ⟨lb, 0, none⟩), v] w fun e w' => e = .returned (.int .i64 0) ∧ ∃ S', Lg w S lb db (first + old.length) nm S' w' (logD D nm first old (c ++ frames ls) y) := by
  have hnl := isLog_len hnm
  have hN := seg_isName hnm (first + old.length)
  have hs := append_log w S lb db (first + old.length) nm _ h.log h.dn h.tb (by omega) (by omega) v ls hv hls hr (by rw [logD_count]; omega)
  have hu : used (logD D nm first old c y).files + (frames ls).length ≤ (logD D nm first old c y).size := by
    rw [used_logD]
    exact hroom
  rw [show ansApp (logD D nm first old c y) (segName nm (first + old.length)) (frames ls) = 0 by simp only [ansApp, hN, hu, if_true, Bool.true_eq_false, if_false],
    show actApp (logD D nm first old c y) (segName nm (first + old.length)) (frames ls) = logD D nm first old (c ++ frames ls) y by
      simp only [actApp, hN, hu, if_true, Bool.true_eq_false, if_false]
      exact app_logD (by omega) _] at hs
  exact hs.mono fun e w' ⟨he, hfr, S', hd, hx⟩ => ⟨he, S', h.ext hfr hd hx⟩

/-- Rotate: the log's own block changes too. -/
theorem rotate_lf (w : World) (S : Nat → Prop) (lb db : Nat) (nm : List UInt8) (D : Dsk) (first : Nat) (old : List (List (List UInt8))) (ls : List (List UInt8)) (y : Nat) (h : Lg w S lb db (first + old.length) nm S w (logD D nm first old (frames ls) y)) (hnm : isLog nm = true) (hmax : first + old.length ≤ 999996) :
    Calls Tryz.prog 12 #[.pointer (some ⟨lb, 0, none⟩)] w fun e w' => e = .returned (.int .i64 0) ∧ Fr (fun k => S k ∨ k = lb) w w' ∧ ∃ S', Nx S S' w ∧ Lg w' S' lb db (first + (old ++ [ls]).length) nm S' w' (logD D nm first (old ++ [ls]) [] 0) := by
  have hnl := isLog_len hnm
  have hl := logD_look (D := D) (nm := nm) (c := frames ls) (y := y) (show first + old.length < 1000000 by omega)
  have hs := rotate_log w S lb db (first + old.length) nm _ h.log h.dn h.tb (by omega) (by omega) h.out (seg_isName hnm _) (by rw [hl]; rfl)
    (by rw [sync_logD (by omega)]; exact logF_none (by omega) (by omega) (by omega)) (by rw [logD_count]; omega)
  rw [turn_logD (by omega)] at hs
  refine hs.mono fun e w' ⟨he, hfr, hlog, S', hd, hx⟩ => ⟨he, hfr, S', hx, ?_⟩
  have e1 : first + (old ++ [ls]).length = first + old.length + 1 := by simp; omega
  rw [e1]
  refine Lg.start hlog hd ?_ (hx.old h.log.lt h.out)
  have h3 : 3 ≤ lb := by
    rcases Nat.lt_or_ge lb 3 with hc | hc
    · exfalso
      have hlog := h.log
      have h0 : lb = 0 ∨ lb = 1 ∨ lb = 2 := by omega
      have hp := h.tb.pow
      unfold Pow Lib.TabIs World.var? at hp
      rw [pow_at] at hp
      simp only [Option.bind_some] at hp
      unfold LogAt at hlog
      rcases h0 with rfl | rfl | rfl
      · have := h.tb.tabs.1 0 (by omega)
        rw [h.log.c0] at this
        cases this
      · have := h.tb.tabs.2 0 (by omega)
        rw [h.log.c0] at this
        cases this
      · rw [hlog] at hp
        have := congrArg (fun o : Option (Array Value) => o.map Array.size) hp
        simp [Lib.pow10Tab] at this
    · exact hc
  exact h.tb.fr hfr fun k hk => hk.elim (h.dn.lo k) fun e => by omega

/-- A crash. -/
theorem crash_lf (w : World) (S : Nat → Prop) (db : Nat) (nm : List UInt8) (D : Dsk) (first : Nat) (old : List (List (List UInt8))) (c : List UInt8) (y : Nat) (h : Dn w S db (logD D nm first old c y)) (hy : y ≤ c.length) (hmax : first + old.length ≤ 999996)
    (vp : Value) (ps : List Int) (hp : RdV w S vp (ps.map (Value.int .i64))) (hps : ∀ p ∈ ps, -9223372036854775808 ≤ p ∧ p ≤ 9223372036854775807) :
    Calls Tryz.prog 13 #[.pointer (some ⟨db, 0, none⟩), vp] w fun e w' => e = .returned (.tuple #[]) ∧ Fr S w w' ∧ ∃ S', Nx S S' w ∧ Dn w' S' db (logD D nm first old (c.take (left c y (ps.getD old.length 0))) (left c y (ps.getD old.length 0))) := by
  have hs := crash_any w S db _ h.dk vp ps hp hps (by rw [logD_count]; omega)
  rw [crash_logD ps hy] at hs
  refine hs.mono fun e w' ⟨he, hdk, hfr⟩ => ⟨he, hfr, ?_⟩
  obtain ⟨S', h1, h2⟩ := h.next hdk
  exact ⟨S', h2, h1⟩
end Go.Proofs.YtlbfgkocpjlamaaGreatDoor
