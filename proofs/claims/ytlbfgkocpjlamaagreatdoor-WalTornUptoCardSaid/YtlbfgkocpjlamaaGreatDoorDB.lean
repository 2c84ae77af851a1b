import Derived.Test.YtlbfgkocpjlamaaGreatDoorActD
import Derived.Test.YtlbfgkocpjlamaaGreatDoorListW

/-
  Does a name begin with one of the prefixes: the walks over both begins, the library's two functions that hand the test on, and the test itself.
-/
namespace Go.Proofs.YtlbfgkocpjlamaaGreatDoor
open Go.RowKit

def begs (ps : List (List UInt8)) (s : List UInt8) : Bool := ps.any fun p => Lib.hasPrefix s p
theorem begs_snoc (ps : List (List UInt8)) (s : List UInt8) (k : Nat) (h : k < ps.length) : begs (ps.take (k + 1)) s = (begs (ps.take k) s || Lib.hasPrefix s ps[k]) := by
  unfold begs
  rw [take_snoc ps k _ (List.getElem?_eq_getElem h), List.any_append]
  simp
theorem begs_true {ps : List (List UInt8)} {s : List UInt8} {k : Nat} (h : k < ps.length) (hp : Lib.hasPrefix s ps[k] = true) : begs ps s = true := List.any_eq_true.2 ⟨_, List.getElem_mem h, hp⟩

set_option maxHeartbeats 400000 in
theorem pre_any (s p : List UInt8) (w : World) (cb : Nat) (hc : w.cell? ⟨cb, 0, none⟩ = some (.string ⟨s.toArray⟩)) :
    Calls Tryz.prog 65 #[.string ⟨p.toArray⟩, .pointer (some ⟨cb, 0, none⟩)] w fun e w' => e = .returned (.bool (Lib.hasPrefix s p)) ∧ w' = w := by
  have HC := Tryz.strings_HasPrefix ⟨s.toArray⟩ ⟨p.toArray⟩ w
  simp only at HC
  go_enter Tryz.func65, Tryz.ntmps65
  go_wp2_with fail
  refine HC.mono ?_
  rintro e w' ⟨rfl, rfl⟩
  go_wp2_with fail
  go_ret
  exact ⟨rfl, rfl⟩

set_option maxRecDepth 100000 in
set_option maxHeartbeats 1000000 in
theorem index_any (w : World) (T : Nat → Prop) (v : Value) (ps : List (List UInt8)) (hv : RdV w T v (ps.map encStr)) (s : List UInt8) (cb : Nat) (hc : w.cell? ⟨cb, 0, none⟩ = some (.string ⟨s.toArray⟩)) :
    Calls Tryz.prog 78 #[v, .func (.func 65) #[] #[.pointer (some ⟨cb, 0, none⟩)]] w fun e w' => (∃ r : Int, e = .returned (.int .i64 r) ∧ decide (0 ≤ r) = begs ps s) ∧ w' = w := by
  have HV := Lib.hid hv
  obtain ⟨p, cap, rfl, hlc, hl47, hcm⟩ := hv.formS
  have HC := Lib.hid (fun q => pre_any s q w cb hc)
  clear hv hc
  go_enter Tryz.func78, Tryz.ntmps78
  go_wp2_with fail
  go_loop [8] (fun i => ∃ k : Nat, k ≤ ps.length ∧ i = .int .i64 (k : Int) ∧ Hid (begs (ps.take k) s = false)) (fun i => ps.length - (intOf i).toNat)
  case atStart => exact ⟨0, by omega, rfl, Lib.hid rfl⟩
  case round =>
    obtain ⟨k, hk, rfl, HB⟩ := hrel
    by_cases hlt : k < ps.length
    · obtain ⟨b, off, rfl, hb, hT, hc⟩ := HV.out.at_ hlt
      have HN := Lib.hid (begs_snoc ps s k hlt)
      have HT := Lib.hid (begs_true (s := s) hlt)
      generalize ps[k] = q at *
      have HCq := HC.out q
      rcases hq : Lib.hasPrefix s q with _ | _
      · rw [hq] at HN HCq
        clear hq HT
        go_wp2_with (go_at_call 65; refine HCq.mono ?_; rintro e w' ⟨rfl, rfl⟩)
        go_round
        case rel => exact ⟨k + 1, by omega, by go_num, Lib.hid (by rw [HN.out, HB.out]; rfl)⟩
        case measure => simp [intOf]; omega
      · have HT2 := Lib.hid (HT.out hq)
        rw [hq] at HCq
        clear hq HT HN
        go_wp2_with (go_at_call 65; refine HCq.mono ?_; rintro e w' ⟨rfl, rfl⟩)
        go_ret
        exact ⟨⟨_, rfl, by rw [HT2.out]; simp⟩, rfl⟩
    · go_wp2_with fail
      go_ret
      refine ⟨⟨_, rfl, ?_⟩, rfl⟩
      have h3 := HB.out
      rw [List.take_of_length_le (by omega)] at h3
      rw [h3]
      rfl

set_option maxHeartbeats 400000 in
theorem cont_any (w : World) (T : Nat → Prop) (v : Value) (ps : List (List UInt8)) (hv : RdV w T v (ps.map encStr)) (s : List UInt8) (cb : Nat) (hc : w.cell? ⟨cb, 0, none⟩ = some (.string ⟨s.toArray⟩)) :
    Calls Tryz.prog 64 #[v, .func (.func 65) #[] #[.pointer (some ⟨cb, 0, none⟩)]] w fun e w' => e = .returned (.bool (begs ps s)) ∧ w' = w := by
  have HC := Lib.hid (index_any w T v ps hv s cb hc)
  clear hv hc
  go_enter Tryz.func64, Tryz.ntmps64
  go_wp2_with fail
  refine HC.out.mono ?_
  rintro e w' ⟨⟨r, rfl, hr⟩, rfl⟩
  have HR := Lib.hid hr
  clear hr
  go_wp2_with fail
  go_ret
  exact ⟨ret_bool HR.out, rfl⟩

set_option maxHeartbeats 400000 in
theorem begins_any (w : World) (T : Nat → Prop) (v : Value) (ps : List (List UInt8)) (hv : RdV w T v (ps.map encStr)) (s : List UInt8) :
    Calls Tryz.prog 50 #[.string ⟨s.toArray⟩, v] w fun e w' => e = .returned (.bool (begs ps s)) ∧ w' = w.alloc (.cells #[.string ⟨s.toArray⟩] 9) := by
  obtain ⟨p, cap, rfl, hlc, hl47, hcm⟩ := hv.formS
  have HC := Lib.hid (cont_any (w.alloc (.cells #[.string ⟨s.toArray⟩] 9)) T _ ps (hv.same ((Fr.refl T w).alloc _)) s w.heap.size (cell_of (heap_alloc_new w _) rfl))
  clear hv
  go_enter Tryz.func50, Tryz.ntmps50
  go_wp2_with fail
  refine HC.out.mono ?_
  rintro e w' ⟨rfl, rfl⟩
  go_wp2_with fail
  go_ret
  exact ⟨rfl, rfl⟩
end Go.Proofs.YtlbfgkocpjlamaaGreatDoor

/-
  The walk over List, with prefixes.
-/
namespace Go.Proofs.YtlbfgkocpjlamaaGreatDoor
open Go.RowKit Go.Maps Go.Sort

theorem sorted_filter {l : List Fl} (h : Srt l) (q : List UInt8 → Bool) : ((namesOf l).filter q).mergeSort leB = (namesOf l).filter q := by
  apply List.mergeSort_of_pairwise
  refine List.Pairwise.filter _ ?_
  unfold namesOf
  rw [List.pairwise_map]
  exact h.imp fun {a b} hab => by
    simp only [leB, decide_eq_true_eq]
    exact List.le_of_lt (before_lt _ _ hab)

set_option maxRecDepth 100000 in
set_option maxHeartbeats 2000000 in
theorem list_pre_some (w : World) (S T : Nat → Prop) (db : Nat) (D : Dsk) (mb : Nat) (loc : List UInt8 → Nat) (dat : List UInt8 → Value) (h : DkAt w S db D (.map (some mb)) loc dat) (pv : Value) (ps : List (List UInt8)) (hv : RdV w T pv (ps.map encStr)) (hne : 0 < ps.length) (hcnt : D.files.length ≤ 1099511627776) :
    Calls Tryz.prog 30 #[.pointer (some ⟨db, 0, none⟩), pv] w fun e w' => ∃ v, e = .returned v ∧ OwnS w' w.heap.size v ((namesOf D.files).filter (begs ps)) ∧ Below w.heap.size w w' := by
  obtain ⟨i0, hi, hz0, hz1, hz2⟩ := info_parts infoStr
  have c3 := h.c3
  have ho : w.ownsMap Tryz.prog 9 ptrElem mb D.files.length (dm loc D.files) := by
    rcases h.map with ⟨e, _⟩ | ⟨mb', e, _, ho⟩
    · cases e
    · obtain rfl : mb = mb' := by simpa using e
      exact ho
  have hbl := ho.lt
  have HH := Lib.hid h
  have HV := Lib.hid hv
  obtain ⟨pp, pcap, rfl, hpc, hp47, hpm⟩ := hv.formS
  have hsz : Maps.size (dm loc D.files) = D.files.length := dm_size loc D.files
  have HSZ := Lib.hid hsz
  have hne2 : ((ps.length : Int) == 0) = false := by rw [beq_eq_false_iff_ne]; omega
  clear h hsz hv
  go_enter Tryz.func30, Tryz.ntmps30
  go_wp2_with (at_range; refine wpList_range_own _ rfl _ 50 rfl 9 66 law Tryz.underlying50 ptrElem mb D.files.length (dm loc D.files) rfl ho ?_; intro w0 hrg0 hg0 hs0)
  go_frame
  have HS0 := Lib.hid hs0
  clear hs0
  go_loopw [5, 6] (fun v _ wr => ∃ (left : Lit → Bool) (cnt : Nat) (ss : List (List UInt8)), wr.ranges Tryz.prog 9 ptrElem mb w.heap.size D.files.length (dm loc D.files) left cnt ∧ ss.length + cnt ≤ D.files.length ∧
      OwnS wr w.heap.size v (ss.filter (begs ps)) ∧ Collected (dm loc D.files) left ss ∧ Below w.heap.size w wr) (fun _ _ wr => wr.rangeLeft mb w.heap.size)
  case atStart =>
    exact ⟨_, _, [], hrg0, by rw [HSZ.out]; simp, ⟨rfl, .inl ⟨rfl, rfl⟩⟩, Collected.start _, (Below.refl _ _).grown hg0 (Nat.le_refl _) (fun j hj => by cases hj)⟩
  case round =>
    obtain ⟨left, cnt, ss, hrg, hcs, hrow, hC, hnx⟩ := hrel
    go_wp2_with (at_next; refine wpList_next_ranges _ rfl _ rfl 9 law ptrElem encStr ptrTo (fun key kl hk => by obtain ⟨x, hx, _⟩ := Maps.keyOf_str Tryz.underlying9 hk; exact ⟨x, hx⟩) (fun v y hv => ptrElem_shape hv) mb w.heap.size D.files.length _ _ _ rfl hrg ?_ ?_)
    · intro hc0 hl0
      have hperm := (hC.perm hrg.owns law Tryz.underlying9 hl0).filter (begs ps)
      have hmerge : ((ss.filter (begs ps)).mergeSort fun x y => decide (x ≤ y)) = (namesOf D.files).filter (begs ps) := by
        have := mergeSort_of_perm hperm
        rw [dm_keys] at this
        exact this.trans (sorted_filter HH.out.srt (begs ps))
      have hlen : (ss.filter (begs ps)).length ≤ ss.length := List.length_filter_le _ _
      have HM := Lib.hid hmerge
      clear hmerge hperm hc0 hl0
      generalize ss.filter (begs ps) = ts at *
      rcases hrow.2 with ⟨rfl, h0⟩ | ⟨g, cap, cur, rfl, hbase, hb, h1, h2, h3, h4⟩
      · have hs0 : ts = [] := List.eq_nil_of_length_eq_zero h0
        subst hs0
        go_wp2_with (go_at_call 51; refine (Tryz.slices_Sort_string_none none 0 wr).mono ?_; rintro e w' ⟨rfl, rfl⟩)
        go_ret
        refine ⟨_, rfl, ?_, hnx⟩
        have e : (namesOf D.files).filter (begs ps) = [] := by rw [← HM.out]; simp
        rw [e]
        exact ⟨rfl, .inl ⟨rfl, rfl⟩⟩
      · have hH : Holds encStr wr g 0 ts.toArray := holds_of_block hb (by simpa using h4)
        have hgl : g < wr.heap.size := (Array.getElem?_eq_some_iff.1 hb).1
        have hc := Tryz.slices_Sort_string g 0 cap ts wr hH hgl (by omega)
        have HC := Lib.hid hc
        clear hc h4
        go_wp2_with (go_at_call 51; refine HC.out.mono ?_; rintro e w' ⟨rfl, nn, os, rfl⟩)
        go_ret
        refine ⟨_, rfl, ?_, hnx.grown (grownBy_sorted _) hnx.size (fun j hj => by cases hj; exact hbase)⟩
        have := ownsRow_sorted (n := nn) (os := os) (ts := ts.mergeSort fun x y => decide (x ≤ y)) (by simp) hbase hb h1 h2 h3
        unfold OwnS
        rw [← HM.out, List.length_mergeSort]
        exact this
    · intro x c kl yd yp w2 cnt2 hkey hlk hv hat hrg2 hlt hg2 hs2 hen
      obtain ⟨x', ex, rfl, _⟩ := Maps.keyOf_str Tryz.underlying9 hkey
      obtain rfl : x = x' := encStr_inj ex
      have hrow2 := World.ownsRow.kept hrow hg2 (Or.inr (row_ne_iter hrow hrg).symm)
      have hb2 : Below w.heap.size w w2 := hnx.grown hg2 hnx.size (fun j hj => by cases hj; exact Nat.le_refl _)
      have HBg := Lib.hid (begins_any w2 T (.slice pp ps.length pcap) ps (HV.out.same (Fr.of_new hb2 T)) x)
      have hz2b := hb2.size
      clear hs2
      rcases hq : begs ps x with _ | _
      · rw [hq] at HBg
        go_wp2_with (go_at_call 50; refine HBg.out.mono ?_; rintro e w3 ⟨rfl, rfl⟩)
        go_roundw
        case rel =>
          refine ⟨_, cnt2, ss ++ [x], hrg2.alloc _, by simp; omega, ?_, hC.step hlk hat, hb2.alloc hz2b _⟩
          rw [List.filter_append]
          simp only [List.filter_cons, hq, List.filter_nil, Bool.false_eq_true, if_false, List.append_nil]
          exact hrow2.alloc _
        case measure => rw [(hrg2.alloc _).left_eq, hrg.left_eq]; exact hlt
      · rw [hq] at HBg
        go_wp2_with (first
          | (go_at_call 50; refine HBg.out.mono ?_; rintro e w3 ⟨rfl, rfl⟩)
          | (at_builtin; refine wpList_append_own _ rfl _ _ 64 rfl w.heap.size 9 i0 (.string ⟨#[]⟩) 1 16 Tryz.underlying64 hi hz0 hz1 hz2 rfl (by decide) _ _ _ rfl ((hrow2.alloc _).alloc _) ⟨w2.heap.size + 1, 0, none⟩ 1 1 [encStr x] rfl rfl (by simpa using cell_one_new (w2.alloc (.cells #[.string ⟨x.toArray⟩] 9)) (encStr x) 9) (by simp [Value.oneCell', encStr]) (by have := List.length_filter_le (begs ps) ss; unfold maxLen at *; omega) (by have := List.length_filter_le (begs ps) ss; omega) (by simp; omega) ?_; intro v' w3 hown' hg3 hnil3; go_frame))
        have hrg3 := ((hrg2.alloc _).alloc _).kept hg3 (row_ne_low hrow2 hbl) (row_ne_iter hrow2 hrg2)
        go_roundw
        case rel =>
          refine ⟨_, cnt2, ss ++ [x], hrg3, by simp; omega, ?_, hC.step hlk hat, ((hb2.alloc hz2b _).alloc (by simp; omega) _).grown hg3 (by simp; omega) (fun j hj => (hrow2.lt j hj).1)⟩
          rw [List.filter_append]
          simp only [List.filter_cons, hq, List.filter_nil, if_true]
          simpa [OwnS] using hown'
        case measure => rw [hrg3.left_eq, hrg.left_eq]; exact hlt

set_option maxRecDepth 100000 in
set_option maxHeartbeats 1000000 in
theorem list_pre_none (w : World) (db : Nat) (c3 : w.cell? ⟨db, 3, none⟩ = some (.map none)) (cap0 n : Nat) (pp : Option Addr) :
    Calls Tryz.prog 30 #[.pointer (some ⟨db, 0, none⟩), .slice pp n cap0] w fun e w' => e = .returned (.slice none 0 0) ∧ Below w.heap.size w w' := by
  have hrg := run_range_nilMap (P := Tryz.prog) w 50 9 66 Tryz.underlying50
  have hnx : ∀ ty, (Instr.next (.pointer (some ⟨w.heap.size, 0, none⟩)) false ty).run Tryz.prog (w.alloc (.mapIter none 0 #[] 0)) = _ := fun ty => run_next_nilMap w ty 0 0 #[]
  go_enter Tryz.func30, Tryz.ntmps30
  go_wp2
  refine wp_loop_rounds 1 ?_
  rw [rounds_succ]
  go_wp2_with (go_at_call 51; refine (Tryz.slices_Sort_string_none none 0 _).mono ?_; rintro e w' ⟨rfl, rfl⟩)
  go_ret
  exact ⟨rfl, (Below.refl _ _).alloc (Nat.le_refl _) _⟩

theorem list_pre (w : World) (S T : Nat → Prop) (db : Nat) (D : Dsk) (h : Dk w S db D) (pv : Value) (ps : List (List UInt8)) (hv : RdV w T pv (ps.map encStr)) (hne : 0 < ps.length) (hcnt : D.files.length ≤ 1099511627776) :
    Calls Tryz.prog 30 #[.pointer (some ⟨db, 0, none⟩), pv] w fun e w' => ∃ v, e = .returned v ∧ OwnS w' w.heap.size v ((namesOf D.files).filter (begs ps)) ∧ Below w.heap.size w w' := by
  obtain ⟨mv, loc, dat, hd⟩ := h
  rcases hd.map with ⟨rfl, e⟩ | ⟨mb, rfl, _⟩
  · obtain ⟨p, cap, rfl, _⟩ := hv.formS
    refine (list_pre_none w db hd.c3 _ _ _).mono ?_
    rintro e' w' ⟨rfl, hb⟩
    rw [e]
    exact ⟨_, rfl, ⟨rfl, .inl ⟨rfl, rfl⟩⟩, hb⟩
  · exact list_pre_some w S T db D mb loc dat hd pv ps hv hne hcnt
end Go.Proofs.YtlbfgkocpjlamaaGreatDoor
