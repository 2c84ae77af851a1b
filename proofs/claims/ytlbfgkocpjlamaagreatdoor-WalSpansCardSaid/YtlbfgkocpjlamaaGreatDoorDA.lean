import Derived.Test.YtlbfgkocpjlamaaGreatDoorDk
import Derived.Test.YtlbfgkocpjlamaaGreatDoorShelf
import Derived.WalkSpells
import Derived.BigQuiet
import Derived.Deep.QuietTactic
import Derived.Outline
import Derived.Maps.RangeWalk
import Derived.RegionTactic
import Derived.BigRegion

/-
  The walks over the smallest functions of package disk: what a name is, copies of bytes and of texts.
-/
namespace Go.Proofs.YtlbfgkocpjlamaaGreatDoor
open Go.RowKit

/-! ### names -/
def ofNm (c : UInt8) : Bool := (decide (97 ≤ c.toNat) && decide (c.toNat ≤ 122)) || (decide (48 ≤ c.toNat) && decide (c.toNat ≤ 57)) || decide (c.toNat = 45) || decide (c.toNat = 46)
def isName (s : List UInt8) : Bool := decide (1 ≤ s.length) && decide (s.length ≤ 64) && s.all ofNm

theorem isName_len {s : List UInt8} (h : isName s = true) : s.length ≤ 64 := by
  simp [isName] at h
  exact h.1.2

theorem clone_any (v : Value) (l : List UInt8) (w : World) (h : Rd w w.heap.size v l) :
    Calls Tryz.prog 32 #[v] w fun e w' => ∃ v', e = .returned v' ∧ Own w' w.heap.size v' l ∧ Below w.heap.size w w' := by
  obtain ⟨p, cap, rfl, hlc, ⟨hl, hcm, hcn⟩, hat⟩ := h
  cases p with
  | none =>
    have h0 : l = [] := by
      apply List.eq_nil_of_length_eq_zero
      rcases Nat.eq_zero_or_pos l.length with h0 | h0
      · exact h0
      · obtain ⟨b, off, e, _⟩ := hat h0
        cases e
    subst h0
    refine (Tryz.bytes_Clone_nil 0 cap w).mono ?_
    rintro e w' ⟨rfl, rfl⟩
    exact ⟨_, rfl, ⟨rfl, .inl ⟨rfl, rfl⟩⟩, Below.refl _ _⟩
  | some ad =>
    refine (Tryz.bytes_Clone_at ad l.length cap (l.map fun x => (x.toNat : Int)) w (by simp) hl ?_).mono ?_
    · intro i hi
      obtain ⟨b, off, e, _, hc⟩ := hat (by omega)
      obtain rfl := Option.some.inj e
      rw [Addr.add_mid, hc i hi]
      simp [hi]
    · rintro e w' ⟨v', rfl, ho, _, hb⟩
      exact ⟨v', rfl, Own.of ho rfl (by simp [bs, bv, Function.comp_def]), hb⟩

set_option maxHeartbeats 400000 in
theorem sclone_any (s : List UInt8) (w : World) (hs : s.length ≤ 281474976710656) :
    Calls Tryz.prog 22 #[.string ⟨s.toArray⟩] w fun e w' => e = .returned (.string ⟨s.toArray⟩) ∧ Below w.heap.size w w' := by
  go_enter Tryz.func22, Tryz.ntmps22
  go_wp2_with fail
  refine (Tryz.stringslite_Clone _ w (by simpa [ByteArray.size] using hs)).mono ?_
  rintro e w1 ⟨rfl, hb⟩
  go_wp2_with fail
  go_ret
  exact ⟨rfl, hb⟩

set_option maxHeartbeats 400000 in
theorem ofName_any (c : UInt8) (w : World) : Calls Tryz.prog 63 #[.int .u8 (c.toNat : Int)] w fun e w' => e = .returned (.bool (ofNm c)) ∧ w = w' := by
  have hlt : c.toNat < 256 := c.toNat_lt
  generalize hb : ofNm c = r
  have HB := Lib.hid hb
  clear hb
  go_enter Tryz.func63, Tryz.ntmps63
  go_wp2
  all_goals
    go_ret
    refine ⟨ret_bool ?_, rfl⟩
    rw [← HB.out]
    unfold ofNm
    rw [Bool.eq_iff_iff]
    simp
    omega

theorem all_snoc (s : List UInt8) (k : Nat) (h : k < s.length) : (s.take (k + 1)).all ofNm = ((s.take k).all ofNm && ofNm s[k]) := by
  rw [take_snoc s k _ (List.getElem?_eq_getElem h), List.all_append]
  simp only [List.all_cons, List.all_nil, Bool.and_true]

theorem ofName_at (s : List UInt8) (k : Nat) (hk : k < s.length) (w : World) (r : Bool) (hr : ofNm s[k] = r) :
    Calls Tryz.prog 63 #[.int .u8 (((⟨s.toArray⟩ : ByteArray)[k]'(by simpa [ByteArray.size] using hk)).toNat : Int)] w fun e w' => e = .returned (.bool r) ∧ w = w' := by
  subst hr
  exact ofName_any _ w

set_option maxHeartbeats 400000 in
theorem name_any (s : List UInt8) (w : World) (hs : s.length ≤ 140737488355328) : Calls Tryz.prog 41 #[.string ⟨s.toArray⟩] w fun e w' => e = .returned (.bool (isName s)) ∧ w = w' := by
  by_cases h1 : s.length < 1
  · have e : isName s = false := by simp [isName]; omega
    rw [e]
    clear e
    go_enter Tryz.func41, Tryz.ntmps41
    go_wp2_with fail
    go_ret
    exact ⟨rfl, rfl⟩
  · by_cases h2 : 64 < s.length
    · have e : isName s = false := by simp [isName]; omega
      rw [e]
      clear e
      go_enter Tryz.func41, Tryz.ntmps41
      go_wp2_with fail
      go_ret
      exact ⟨rfl, rfl⟩
    · have e : isName s = s.all ofNm := by simp [isName]; omega
      rw [e]
      clear e
      go_enter Tryz.func41, Tryz.ntmps41
      go_wp2_with fail
      go_loop [3, 14] (fun _ i => ∃ k : Nat, k ≤ s.length ∧ i = .int .i64 (k : Int) ∧ Hid ((s.take k).all ofNm = true)) (fun _ i => s.length - (intOf i).toNat)
      case atStart => exact ⟨0, by omega, rfl, Lib.hid rfl⟩
      case round =>
        obtain ⟨k, hk, rfl, HA⟩ := hrel
        by_cases hlt : k < s.length
        · have HS : Hid ((s.take (k + 1)).all ofNm = ((s.take k).all ofNm && ofNm s[k])) := Lib.hid (all_snoc s k hlt)
          cases hq : ofNm s[k] with
          | true =>
            have HC := ofName_at s k hlt w true hq
            have HQ := Lib.hid hq
            clear hq
            go_wp2_with fail
            refine HC.mono ?_
            rintro e w' ⟨rfl, rfl⟩
            clear HC
            go_wp2_with fail
            go_round
            case rel => exact ⟨k + 1, by omega, by go_num, Lib.hid (by rw [HS.out, HA.out, HQ.out]; rfl)⟩
            case measure => simp [intOf]; omega
          | false =>
            have HC := ofName_at s k hlt w false hq
            have HQ := Lib.hid hq
            clear hq
            go_wp2_with fail
            refine HC.mono ?_
            rintro e w' ⟨rfl, rfl⟩
            clear HC
            go_wp2_with fail
            go_ret
            refine ⟨ret_bool ?_, rfl⟩
            have h3 : s.all ofNm = ((s.take (k + 1)).all ofNm && (s.drop (k + 1)).all ofNm) := by rw [← List.all_append, List.take_append_drop]
            rw [h3, HS.out, HQ.out]
            simp
        · go_wp2_with fail
          go_ret
          refine ⟨ret_bool ?_, rfl⟩
          have h3 := HA.out
          rw [List.take_of_length_le (by omega)] at h3
          exact h3.symm
end Go.Proofs.YtlbfgkocpjlamaaGreatDoor

/-
  The walks over the functions of package disk that only read: used, unsynced, read, has, fits; and sync.
-/
namespace Go.Proofs.YtlbfgkocpjlamaaGreatDoor
open Go.RowKit

set_option maxHeartbeats 400000 in
theorem unsynced_any (w : World) (S : Nat → Prop) (b : Nat) (v : Value) (f : Fl) (h : FileAt w S b v f) (hl : f.data.length ≤ 1073741824) :
    Calls Tryz.prog 52 #[.pointer (some ⟨b, 0, none⟩)] w fun e w' => e = .returned (.int .i64 ((f.data.length - f.synced : Nat) : Int)) ∧ ∃ n, w' = w.drewN n := by
  have c0 := h.c0
  have c1 := h.c1
  have hle := h.le
  obtain ⟨p, cap, rfl, h1, h2⟩ := h.own.form
  have hsub : ((f.data.length - f.synced : Nat) : Int) = (f.data.length : Int) - (f.synced : Int) := by omega
  rw [hsub]
  clear hsub h
  generalize f.data.length = L at *
  generalize f.synced = Y at *
  have e0 : IntKind.i64.wrap ((L : Int) - (Y : Int)) = (L : Int) - (Y : Int) := IntWalk.i64_in _ (by omega)
  go_enter Tryz.func52, Tryz.ntmps52
  go_wp2
  go_quiet (fail)
  go_wp2
  go_ret
  exact ⟨rfl, _, rfl⟩

set_option maxHeartbeats 400000 in
theorem sync_any (w : World) (S : Nat → Prop) (b : Nat) (v : Value) (f : Fl) (h : FileAt w S b v f) :
    Calls Tryz.prog 48 #[.pointer (some ⟨b, 0, none⟩)] w fun e w' => e = .returned (.tuple #[]) ∧ w' = w.setCell ⟨b, 1, none⟩ (.int .i64 (f.data.length : Int)) := by
  have c0 := h.c0
  have c1 := h.c1
  have z1 := h.fz 1
  obtain ⟨p, cap, rfl, h1, h2⟩ := h.own.form
  clear h
  generalize f.data.length = L at *
  go_enter Tryz.func48, Tryz.ntmps48
  go_wp2
  go_end0
  exact ⟨rfl, rfl⟩

set_option maxHeartbeats 400000 in
theorem read_none (w : World) (S : Nat → Prop) (db : Nat) (D : Dsk) (h : Dk w S db D) (s : List UInt8) (hs : s.length ≤ maxLen) (hn : look s D.files = none) :
    Calls Tryz.prog 15 #[.pointer (some ⟨db, 0, none⟩), .string ⟨s.toArray⟩] w fun e w' => e = .returned (.tuple #[.slice none 0 0, .int .i64 4]) ∧ w = w' := by
  obtain ⟨mv, loc, dat, h⟩ := h
  have c3 := h.c3
  have HN := Lib.hid hn
  clear hn
  go_enter Tryz.func15, Tryz.ntmps15
  go_wp2_with (at_lookup; refine wpList_look_none rfl _ _ rfl h.map s hs HN.out rfl rfl ?_)
  go_ret2
  exact ⟨rfl, rfl⟩

set_option maxHeartbeats 400000 in
theorem read_some (w : World) (S : Nat → Prop) (db : Nat) (D : Dsk) (h : Dk w S db D) (s : List UInt8) (hs : s.length ≤ maxLen) (f : Fl) (hn : look s D.files = some f) :
    Calls Tryz.prog 15 #[.pointer (some ⟨db, 0, none⟩), .string ⟨s.toArray⟩] w fun e w' => ∃ v, e = .returned (.tuple #[v, .int .i64 0]) ∧ Own w' w.heap.size v f.data ∧ Below w.heap.size w w' := by
  obtain ⟨mv, loc, dat, h⟩ := h
  have c3 := h.c3
  obtain ⟨hm, rfl⟩ := look_some hn
  have hf := h.files.each f hm
  have hl := h.file hm
  have c0 := hf.c0
  have HR := Lib.hid (hf.own.rd (by omega))
  have HN := Lib.hid hn
  clear hn hm hf hl
  generalize dat f.name = v at *
  go_enter Tryz.func15, Tryz.ntmps15
  go_wp2_with (first | (at_lookup; refine wpList_look_some rfl _ _ rfl h.map f.name hs HN.out rfl rfl ?_) | (go_at_call 32; refine (clone_any v f.data _ HR.out).mono ?_; rintro e w1 ⟨v1, rfl, ho, hb⟩))
  go_ret2
  exact ⟨v1, rfl, ho, hb⟩
def hasAll (l : List Fl) (names : List (List UInt8)) : Bool := names.all fun s => (look s l).isSome
theorem hasAll_snoc (l : List Fl) (names : List (List UInt8)) (k : Nat) (h : k < names.length) : hasAll l (names.take (k + 1)) = (hasAll l (names.take k) && (look names[k] l).isSome) := by
  unfold hasAll
  rw [take_snoc names k _ (List.getElem?_eq_getElem h), List.all_append]
  simp only [List.all_cons, List.all_nil, Bool.and_true]
theorem hasAll_cut (l : List Fl) (names : List (List UInt8)) (k : Nat) : hasAll l names = (hasAll l (names.take k) && hasAll l (names.drop k)) := by
  unfold hasAll
  rw [← List.all_append, List.take_append_drop]

set_option maxHeartbeats 400000 in
theorem has_any (w : World) (S T : Nat → Prop) (db : Nat) (D : Dsk) (h : Dk w S db D) (v : Value) (names : List (List UInt8)) (hv : RdV w T v (names.map encStr)) (hs : ∀ s ∈ names, s.length ≤ maxLen) :
    Calls Tryz.prog 47 #[.pointer (some ⟨db, 0, none⟩), v] w fun e w' => e = .returned (.bool (hasAll D.files names)) ∧ w = w' := by
  obtain ⟨mv, loc, dat, h⟩ := h
  have c3 := h.c3
  obtain ⟨p, cap, rfl, hlc, hl47, hcm, hcn, hat⟩ := hv
  rw [List.length_map] at *
  have HS := Lib.hid hs
  have HA := Lib.hid hat
  have HM := Lib.hid h.map
  clear hs hat hcn h
  go_enter Tryz.func47, Tryz.ntmps47
  go_wp2_with fail
  go_loop [6, 9] (fun _ i => ∃ k : Nat, k ≤ names.length ∧ i = .int .i64 (k : Int) ∧ Hid (hasAll D.files (names.take k) = true)) (fun _ i => names.length - (intOf i).toNat)
  case atStart => exact ⟨0, by omega, rfl, Lib.hid rfl⟩
  case round =>
    obtain ⟨k, hk, rfl, HB⟩ := hrel
    by_cases hlt : k < names.length
    · obtain ⟨b, off, rfl, hb, hT, hc⟩ := HA.out k (encStr names[k]) (by simp [hlt])
      have HN := Lib.hid (hasAll_snoc D.files names k hlt)
      have HC := Lib.hid (hasAll_cut D.files names (k + 1))
      have hsk := HS.out names[k] (List.getElem_mem hlt)
      generalize names[k] = s at *
      rcases hq : look s D.files with _ | f
      · have HQ := Lib.hid hq
        clear hq
        go_wp2_with (at_lookup; refine wpList_look_none rfl _ _ rfl HM.out s hsk HQ.out rfl rfl ?_)
        go_ret
        refine ⟨ret_bool ?_, rfl⟩
        rw [HC.out, HN.out, HQ.out]
        simp
      · have HQ := Lib.hid hq
        clear hq
        go_wp2_with (at_lookup; refine wpList_look_some rfl _ _ rfl HM.out s hsk HQ.out rfl rfl ?_)
        go_round
        case rel => exact ⟨k + 1, by omega, by go_num, Lib.hid (by rw [HN.out, HB.out, HQ.out]; rfl)⟩
        case measure => simp [intOf]; omega
    · go_wp2_with fail
      go_ret
      refine ⟨ret_bool ?_, rfl⟩
      have h3 := HB.out
      rw [List.take_of_length_le (by omega)] at h3
      exact h3.symm

def flen (ls : List (List UInt8)) : Nat := ls.flatten.length
theorem flen_snoc (ls : List (List UInt8)) (k : Nat) (h : k < ls.length) : flen (ls.take (k + 1)) = flen (ls.take k) + ls[k].length := by
  unfold flen
  rw [take_snoc ls k _ (List.getElem?_eq_getElem h), List.flatten_append, List.length_append]
  congr 1
  simp only [List.flatten_cons, List.flatten_nil, List.append_nil]
theorem flat_snoc (ls : List (List UInt8)) (k : Nat) (h : k < ls.length) : (ls.take (k + 1)).flatten = (ls.take k).flatten ++ ls[k] := by
  rw [take_snoc ls k _ (List.getElem?_eq_getElem h), List.flatten_append]
  congr 1
  simp only [List.flatten_cons, List.flatten_nil, List.append_nil]
theorem flen_take (ls : List (List UInt8)) (k : Nat) : flen (ls.take k) ≤ flen ls := by
  have h : flen ls = flen (ls.take k) + flen (ls.drop k) := by
    unfold flen
    rw [← List.length_append, ← List.flatten_append, List.take_append_drop]
  omega

set_option maxHeartbeats 400000 in
theorem fits_any (w : World) (S T : Nat → Prop) (db : Nat) (D : Dsk) (h : Dk w S db D) (v : Value) (ls : List (List UInt8)) (hv : RdW w T v ls) :
    Calls Tryz.prog 42 #[.pointer (some ⟨db, 0, none⟩), v] w fun e w' => e = .returned (.bool (decide (used D.files + flen ls ≤ D.size))) ∧ ∃ n, w' = w.drewN n := by
  obtain ⟨mv, loc, dat, h⟩ := h
  have c0 := h.c0
  have c1 := h.c1
  have hroom := h.room
  have hsize := h.size
  obtain ⟨us, hul, hv, hus⟩ := hv
  obtain ⟨p, cap, rfl, hlc, hl47, hcm, hcn, hat⟩ := hv
  rw [hul] at hlc hl47 ⊢
  have HU := Lib.hid hul
  have HA := Lib.hid hat
  have HW := Lib.hid hus
  clear hul hat hus hcn h
  generalize used D.files = U at *
  generalize D.size = Z at *
  have e0 : IntKind.i64.wrap ((Z : Int) - (U : Int)) = (Z : Int) - (U : Int) := IntWalk.i64_in _ (by omega)
  go_enter Tryz.func42, Tryz.ntmps42
  go_wp2
  go_quiet (fail)
  clear e0
  go_wp2_with fail
  go_loop [5, 7, 19] (fun r _ i => ∃ k : Nat, k ≤ ls.length ∧ i = .int .i64 (k : Int) ∧ U + flen (ls.take k) ≤ Z ∧ r = .int .i64 ((Z : Int) - (U : Int) - (flen (ls.take k) : Int))) (fun _ _ i => ls.length - (intOf i).toNat)
  case atStart => exact ⟨0, by omega, rfl, by simpa [flen] using hroom, by simp [flen]⟩
  case round =>
    obtain ⟨k, hk, rfl, hU, rfl⟩ := hrel
    by_cases hlt : k < ls.length
    · obtain ⟨b, off, rfl, hb, hT, hc⟩ := HA.out k (us[k]'(by rw [HU.out]; exact hlt)) (List.getElem?_eq_getElem _)
      have hrd := (HW.out k _ _ (List.getElem?_eq_getElem (by rw [HU.out]; exact hlt)) (List.getElem?_eq_getElem hlt)).rd
      have hsn := flen_snoc ls k hlt
      have htk := flen_take ls (k + 1)
      rw [hsn] at htk
      have HSn := Lib.hid hsn
      clear hsn
      generalize us[k]'_ = u at *
      generalize ls[k] = m at *
      generalize flen (ls.take k) = R at *
      obtain ⟨p2, cap2, rfl, hlc2, hl472, hcm2, hat2⟩ := hrd.form
      clear hrd hat2
      by_cases hfit : U + R + m.length ≤ Z
      · go_wp2
        go_round
        case rel => exact ⟨k + 1, by omega, by go_num, by rw [HSn.out]; omega, by rw [HSn.out]; go_num⟩
        case measure => simp [intOf]; omega
      · go_wp2
        go_ret
        refine ⟨ret_bool ?_, _, rfl⟩
        simp
        omega
    · have e : flen (ls.take k) = flen ls := by rw [List.take_of_length_le (by omega)]
      rw [e] at hU
      go_wp2_with fail
      go_ret
      refine ⟨ret_bool ?_, _, rfl⟩
      simp
end Go.Proofs.YtlbfgkocpjlamaaGreatDoor

/-
  A disk in memory: a file is added, a file is gone.
-/
namespace Go.Proofs.YtlbfgkocpjlamaaGreatDoor
open Go.RowKit Go.Maps

/-- The disk's own block and its map's. -/
def DBlk (db : Nat) (mv : Value) : Nat → Prop := fun k => k = db ∨ mv = .map (some k)

section
variable {w w' : World} {S T : Nat → Prop} {db : Nat} {D : Dsk} {mv : Value} {loc : List UInt8 → Nat} {dat : List UInt8 → Value}
theorem DkAt.dblk (h : DkAt w S db D mv loc dat) : ∀ k, DBlk db mv k → S k := by
  rintro k (rfl | e)
  · exact h.inS
  · rcases h.map with ⟨e2, _⟩ | ⟨mb, e2, hs, _⟩
    · rw [e2] at e; cases e
    · rw [e2] at e
      obtain rfl : mb = k := by simpa using e
      exact hs
/-- A file's blocks are neither the disk's own nor its map's. -/
theorem DkAt.free (h : DkAt w S db D mv loc dat) {b : Nat} {c : Array Value} {t : TypeId} {z : Nat × Nat} (hb : w.heap[b]? = some (.cells c t z)) (ht : t ≠ 52) : ¬ DBlk db mv b := by
  rintro (e | e)
  · subst e
    exact kind_ne hb h.blk ht rfl
  · rcases h.map with ⟨e2, _⟩ | ⟨mb, e2, _, ho⟩
    · rw [e2] at e; cases e
    · rw [e2] at e
      obtain rfl : mb = b := by simpa using e
      exact own_kind ho hb rfl
theorem DkAt.filesKeep (h : DkAt w S db D mv loc dat) (hfr : Fr (DBlk db mv) w w') (hT : ∀ k, k < w.heap.size → S k → T k) : Files w' T loc dat D.files :=
  h.files.keep (fun f hf => by
    have e := h.files.each f hf
    refine ⟨hfr.block _ e.lt (h.free e.blk (by decide)), fun k hk => ?_⟩
    obtain ⟨cur, hc⟩ := e.own.heap hk
    exact hfr.block k (block_lt hc) (h.free hc (by decide))) hT

theorem DkAt.addFile (h : DkAt w S db D mv loc dat) {f : Fl} {v : Value} {b mb n : Nat} (hfr : Fr (DBlk db mv) w w')
    (hblk : w'.heap[db]? = some (.cells #[.int .i64 (D.size : Int), .int .i64 (used (put f D.files) : Int), .int .i64 (D.born : Int), .map (some mb)] 52 (0, 0)))
    (hmap : w'.ownsMap Tryz.prog 9 ptrElem mb n (dm (upd loc f.name b) (put f D.files))) (hmb : T mb) (hnew : FileAt w' T b v f)
    (hap : ∀ g ∈ D.files, g.name ≠ f.name → b ≠ loc g.name ∧ ∀ k, v.ownBlock = some k → (dat g.name).ownBlock ≠ some k)
    (hT : ∀ k, k < w.heap.size → S k → T k) (hname : f.name.length ≤ 64) (hroom : used (put f D.files) ≤ D.size) :
    DkAt w' T db { D with files := put f D.files } (.map (some mb)) (upd loc f.name b) (upd dat f.name v) := by
  have hk := h.filesKeep hfr hT
  refine ⟨hblk, .inr ⟨mb, rfl, hmb, own_exact hmap⟩, ⟨fun g hg => ?_, fun g hg g2 hg2 hne => ?_⟩, h.srt.put f, fun g hg => ?_, hroom, h.size, hT _ h.lt h.inS⟩
  · rcases mem_put.1 hg with rfl | ⟨hg, hgn⟩
    · rw [upd_same, upd_same]; exact hnew
    · rw [upd_other _ _ hgn, upd_other _ _ hgn]; exact hk.each g hg
  · rcases mem_put.1 hg with e1 | ⟨m1, hgn⟩
    · rcases mem_put.1 hg2 with e2 | ⟨m2, hg2n⟩
      · exact absurd (by rw [e1, e2]) hne
      · rw [e1, upd_same, upd_same, upd_other _ _ hg2n, upd_other _ _ hg2n]
        exact hap g2 m2 hg2n
    · rcases mem_put.1 hg2 with e2 | ⟨m2, hg2n⟩
      · rw [e2, upd_same, upd_same, upd_other _ _ hgn, upd_other _ _ hgn]
        exact ⟨Ne.symm (hap g m1 hgn).1, fun k hk2 e => (hap g m1 hgn).2 k e hk2⟩
      · rw [upd_other _ _ hgn, upd_other _ _ hgn, upd_other _ _ hg2n, upd_other _ _ hg2n]
        exact h.files.apart g m1 g2 m2 hne
  · rcases mem_put.1 hg with rfl | ⟨hg, _⟩
    · exact hname
    · exact h.names g hg

theorem DkAt.delFile (h : DkAt w S db D mv loc dat) {s : List UInt8} {mb n : Nat} (hmv : mv = .map (some mb)) (hfr : Fr (DBlk db mv) w w')
    (hblk : w'.heap[db]? = some (.cells #[.int .i64 (D.size : Int), .int .i64 (used (del s D.files) : Int), .int .i64 (D.born : Int), mv] 52 (0, 0)))
    (hmap : w'.ownsMap Tryz.prog 9 ptrElem mb n (dm loc (del s D.files))) (hT : ∀ k, k < w.heap.size → S k → T k) :
    DkAt w' T db { D with files := del s D.files } mv loc dat := by
  have hk := h.filesKeep hfr hT
  have hu := used_del h.srt s
  have hroom := h.room
  refine ⟨hblk, .inr ⟨mb, hmv, hT mb ?_ (h.dblk mb (.inr hmv)), own_exact hmap⟩, hk.sub fun f hf => (mem_del.1 hf).1, h.srt.del s, fun f hf => h.names f (mem_del.1 hf).1, ?_, h.size, hT _ h.lt h.inS⟩
  · rcases h.map with ⟨e2, _⟩ | ⟨mb', e2, _, ho⟩
    · rw [e2] at hmv; cases hmv
    · rw [e2] at hmv
      obtain rfl : mb' = mb := by simpa using hmv
      exact ho.lt
  · show used (del s D.files) ≤ D.size
    omega
theorem used_fresh {l : List Fl} (h : Srt l) {s : List UInt8} (hn : look s l = none) : used (put ⟨s, [], 0⟩ l) = used l := by
  have := used_put h ⟨s, [], 0⟩
  simp only [hn, List.length_nil] at this
  omega
/-- A new file without bytes. -/
theorem DkAt.fresh (h : DkAt w S db D mv loc dat) {s : List UInt8} (hn : look s D.files = none) (hs : s.length ≤ 64) {b mb n : Nat} (hfr : Fr (DBlk db mv) w w')
    (hblk : w'.heap[db]? = some (.cells #[.int .i64 (D.size : Int), .int .i64 (used D.files : Int), .int .i64 (D.born : Int), .map (some mb)] 52 (0, 0)))
    (hfile : w'.heap[b]? = some (.cells #[.slice none 0 0, .int .i64 0] 70 (0, 0))) (hb : w.heap.size ≤ b)
    (hmap : w'.ownsMap Tryz.prog 9 ptrElem mb n ((dm loc D.files).put (.string s) (.held b))) (hmb : S mb ∨ w.heap.size ≤ mb) :
    DkAt w' (More S w.heap.size) db { D with files := put ⟨s, [], 0⟩ D.files } (.map (some mb)) (upd loc s b) (upd dat s (.slice none 0 0)) := by
  have hu := used_fresh h.srt hn
  refine h.addFile (f := ⟨s, [], 0⟩) (v := .slice none 0 0) (n := n) hfr (by rw [hu]; exact hblk) ?_ hmb ⟨hfile, ⟨rfl, .inl ⟨rfl, rfl⟩⟩, Nat.le_refl _, .inr hb, fun k hk => by cases hk⟩ (fun g hg _ => ⟨?_, fun k hk => by cases hk⟩) (fun _ _ hs => .inl hs) hs (by rw [hu]; exact h.room)
  · rw [← dm_put loc D.files ⟨s, [], 0⟩ b]
    exact hmap
  · have := (h.files.each g hg).lt
    omega
theorem DkAt.hasMap (h : DkAt w S db D mv loc dat) {f : Fl} (hf : f ∈ D.files) : ∃ mb, mv = .map (some mb) ∧ w.ownsMap Tryz.prog 9 ptrElem mb D.files.length (dm loc D.files) ∧ mb ≠ db := by
  rcases h.map with ⟨_, e⟩ | ⟨mb, e, _, ho⟩
  · rw [e] at hf; cases hf
  · exact ⟨mb, e, ho, own_kind ho h.blk⟩

/-- What a walk reads behind an append onto a file's bytes, ahead of and behind the store of the slice. -/
theorem DkAt.behind (h : DkAt w S db D mv loc dat) {f : Fl} (hf : f ∈ D.files) {w1 : World} (hg : w.grownBy w1 (dat f.name).ownBlock) (v1 : Value) :
    w1.heap[loc f.name]? = some (.cells #[dat f.name, .int .i64 (f.synced : Int)] 70 (0, 0)) ∧
    (w1.setCell ⟨loc f.name, 0, none⟩ v1).heap[loc f.name]? = some (.cells #[v1, .int .i64 (f.synced : Int)] 70 (0, 0)) ∧
    (w1.setCell ⟨loc f.name, 0, none⟩ v1).heap[db]? = some (.cells #[.int .i64 (D.size : Int), .int .i64 (used D.files : Int), .int .i64 (D.born : Int), mv] 52 (0, 0)) := by
  have e := h.files.each f hf
  have b := h.block hf
  have e1 : w1.heap[loc f.name]? = some (.cells #[dat f.name, .int .i64 (f.synced : Int)] 70 (0, 0)) := (hg.block _ e.lt (fun e2 => by
    obtain ⟨cur, hc⟩ := e.own.heap e2.symm
    exact kind_ne hc e.blk (by decide) rfl)).trans e.blk
  exact ⟨e1, setCell_same e1 _, (setCell_other b.1 _).trans ((hg.block _ h.lt (fun e2 => b.2 e2.symm)).trans h.blk)⟩
theorem DkAt.grow (h : DkAt w S db D mv loc dat) {f : Fl} (hf : f ∈ D.files) {m : List UInt8} {v1 : Value} {w1 : World} (hown1 : Own w1 0 v1 (f.data ++ m)) (hg : w.grownBy w1 (dat f.name).ownBlock)
    (hat : v1.ownBlock = (dat f.name).ownBlock ∨ v1.ownBlock = some w.heap.size) (hw : w' = (w1.setCell ⟨loc f.name, 0, none⟩ v1).setCell ⟨db, 1, none⟩ (.int .i64 ((used D.files : Int) + (m.length : Int))))
    (hS : ∀ k, w.heap.size ≤ k → S k) (hroom : used D.files + m.length ≤ D.size) :
    DkAt w' S db { D with files := put ⟨f.name, f.data ++ m, f.synced⟩ D.files } mv loc (upd dat f.name v1) ∧ Fr S w w' := by
  subst hw
  have e := h.files.each f hf
  have b := h.block hf
  obtain ⟨_, b2, b3⟩ := h.behind hf hg v1
  have hu := used_grow h.srt f.name f.data m f.synced
  rw [show (⟨f.name, f.data, f.synced⟩ : Fl) = f from rfl, put_self h.srt hf] at hu
  have hfr : Fr (fun k => k = db ∨ FBlk (loc f.name) (dat f.name) k) w ((w1.setCell ⟨loc f.name, 0, none⟩ v1).setCell ⟨db, 1, none⟩ (.int .i64 ((used D.files : Int) + (m.length : Int)))) :=
    (Fr.grown hg (fun k e2 => .inr (.inr e2))).then ((Fr.setCell _ w1 (p := ⟨loc f.name, 0, none⟩) (.inr (.inl rfl)) v1).then (Fr.setCell _ _ (p := ⟨db, 1, none⟩) (.inl rfl) _))
  have hrow : ∀ k, v1.ownBlock = some k → k ≠ loc f.name ∧ k ≠ db := fun k hk => by
    obtain ⟨cur, hc⟩ := hown1.heap hk
    refine ⟨?_, ?_⟩
    · rintro rfl
      exact kind_ne hc (h.behind hf hg v1).1 (by decide) rfl
    · rintro rfl
      have := (hg.block _ h.lt (fun e2 => b.2 e2.symm)).trans h.blk
      exact kind_ne hc this (by decide) rfl
  refine ⟨h.setFile (f := f) (f' := ⟨f.name, f.data ++ m, f.synced⟩) hf rfl hfr ?_ ⟨?_, ?_, ?_, e.inS, ?_⟩ ?_ (fun _ _ hs => hs) (by rw [hu]; exact hroom), hfr.mono ?_⟩
  · rw [setCell_same b3, hu, Int.natCast_add]
    rfl
  · exact (setCell_other (Ne.symm b.1) _).trans b2
  · exact hown1.keep fun k hk => (setCell_other (hrow k hk).2 _).trans (setCell_other (hrow k hk).1 _)
  · rw [List.length_append]
    have := e.le
    show f.synced ≤ _
    omega
  · intro k hk
    rcases hat with hat | hat
    · exact e.row k (hat.symm.trans hk)
    · rw [hat] at hk
      exact hS k (by rw [← Option.some.inj hk]; exact Nat.le_refl _)
  · rcases hat with hat | hat
    · exact .inl hat
    · exact .inr fun k hk => by rw [hat] at hk; rw [← Option.some.inj hk]; exact Nat.le_refl _
  · rintro k _ (rfl | rfl | hk)
    · exact h.inS
    · exact e.inS
    · exact e.row k hk

/-- Another count of synced bytes. -/
theorem DkAt.sync (h : DkAt w S db D mv loc dat) {f : Fl} (hf : f ∈ D.files) :
    DkAt (w.setCell ⟨loc f.name, 1, none⟩ (.int .i64 (f.data.length : Int))) S db { D with files := put ⟨f.name, f.data, f.data.length⟩ D.files } mv loc (upd dat f.name (dat f.name)) ∧ Fr S w (w.setCell ⟨loc f.name, 1, none⟩ (.int .i64 (f.data.length : Int))) := by
  have e := h.files.each f hf
  have b := h.block hf
  have hu := used_same h.srt (f' := ⟨f.name, f.data, f.data.length⟩) hf rfl rfl
  have hfr : Fr (fun k => k = db ∨ FBlk (loc f.name) (dat f.name) k) w (w.setCell ⟨loc f.name, 1, none⟩ (.int .i64 (f.data.length : Int))) := Fr.setCell _ w (p := ⟨loc f.name, 1, none⟩) (.inr (.inl rfl)) _
  refine ⟨h.setFile (f := f) (f' := ⟨f.name, f.data, f.data.length⟩) hf rfl hfr ?_ ⟨?_, ?_, Nat.le_refl _, e.inS, e.row⟩ (.inl rfl) (fun _ _ hs => hs) (by rw [hu]; exact h.room), hfr.mono ?_⟩
  · rw [hu]
    exact (setCell_other b.1 _).trans h.blk
  · rw [setCell_same e.blk]
    rfl
  · refine e.own.keep fun k hk => setCell_other ?_ _
    rintro rfl
    obtain ⟨cur, hc⟩ := e.own.heap hk
    exact kind_ne hc e.blk (by decide) rfl
  · rintro k _ (rfl | rfl | hk)
    · exact h.inS
    · exact e.inS
    · exact e.row k hk

/-- A file is called by a new name. -/
theorem DkAt.move (h : DkAt w S db D mv loc dat) {f : Fl} (hf : f ∈ D.files) {s : List UInt8} (hs : s.length ≤ 64) (hn : look s D.files = none) {mb n : Nat} (hmv : mv = .map (some mb)) (hfr : Fr (DBlk db mv) w w') (hblk : w'.heap[db]? = w.heap[db]?)
    (hmap : w'.ownsMap Tryz.prog 9 ptrElem mb n (((dm loc D.files).del (.string f.name)).put (.string s) (.held (loc f.name)))) :
    DkAt w' S db { D with files := put ⟨s, f.data, f.synced⟩ (del f.name D.files) } mv (upd loc s (loc f.name)) (upd dat s (dat f.name)) := by
  have hk := h.filesKeep hfr (fun _ _ hs => hs)
  have hmb : S mb := h.dblk mb (.inr hmv)
  have hd1 := used_del h.srt f.name
  rw [look_mem h.srt hf] at hd1
  have hns : look s (del f.name D.files) = none := look_none.2 fun g hg => look_none.1 hn g (mem_del.1 hg).1
  have hp := used_put (h.srt.del f.name) ⟨s, f.data, f.synced⟩
  simp only [hns] at hp
  have hu : used (put ⟨s, f.data, f.synced⟩ (del f.name D.files)) = used D.files := by simp only at hd1; omega
  have hne : ∀ g ∈ del f.name D.files, g.name ≠ s ∧ g ∈ D.files ∧ g.name ≠ f.name := fun g hg => ⟨look_none.1 hn g (mem_del.1 hg).1, mem_del.1 hg⟩
  refine ⟨?_, .inr ⟨mb, hmv, hmb, ?_⟩, ⟨fun g hg => ?_, fun g hg g2 hg2 hne2 => ?_⟩, (h.srt.del _).put _, fun g hg => ?_, ?_, h.size, h.inS⟩
  · show w'.heap[db]? = some (.cells #[.int .i64 (D.size : Int), .int .i64 (used (put ⟨s, f.data, f.synced⟩ (del f.name D.files)) : Int), .int .i64 (D.born : Int), mv] 52 (0, 0))
    rw [hu, hblk]
    exact h.blk
  · rw [dm_del] at hmap
    have := dm_put loc (del f.name D.files) ⟨s, f.data, f.synced⟩ (loc f.name)
    rw [this] at hmap
    exact own_exact hmap
  · rcases mem_put.1 hg with rfl | ⟨hg, hgn⟩
    · have e := hk.each f hf
      rw [upd_same, upd_same]
      exact ⟨e.blk, e.own, e.le, e.inS, e.row⟩
    · rw [upd_other _ _ hgn, upd_other _ _ hgn]
      exact hk.each g (hne g hg).2.1
  · rcases mem_put.1 hg with e1 | ⟨m1, hgn⟩
    · rcases mem_put.1 hg2 with e2 | ⟨m2, hg2n⟩
      · exact absurd (by rw [e1, e2]) hne2
      · rw [e1, upd_same, upd_same, upd_other _ _ hg2n, upd_other _ _ hg2n]
        exact h.files.apart f hf g2 (hne g2 m2).2.1 (Ne.symm (hne g2 m2).2.2)
    · rcases mem_put.1 hg2 with e2 | ⟨m2, hg2n⟩
      · rw [e2, upd_same, upd_same, upd_other _ _ hgn, upd_other _ _ hgn]
        exact h.files.apart g (hne g m1).2.1 f hf (hne g m1).2.2
      · rw [upd_other _ _ hgn, upd_other _ _ hgn, upd_other _ _ hg2n, upd_other _ _ hg2n]
        exact h.files.apart g (hne g m1).2.1 g2 (hne g2 m2).2.1 hne2
  · rcases mem_put.1 hg with rfl | ⟨hg, _⟩
    · exact hs
    · exact h.names g (hne g hg).2.1
  · show used (put ⟨s, f.data, f.synced⟩ (del f.name D.files)) ≤ D.size
    rw [hu]
    exact h.room

/-- Other bytes, in a new row. -/
theorem FileAt.cut {b : Nat} {v v1 : Value} {f : Fl} {m : List UInt8} {w1 : World} (h : FileAt w S b v f) (hb : Below w.heap.size w w1) (ho : Own w1 w.heap.size v1 m) (hm : f.synced ≤ m.length) :
    FileAt (w1.setCell ⟨b, 0, none⟩ v1) (More S w.heap.size) b v1 ⟨f.name, m, f.synced⟩ ∧ Fr (fun k => k = b) w (w1.setCell ⟨b, 0, none⟩ v1) := by
  have e1 : w1.heap[b]? = some (.cells #[v, .int .i64 (f.synced : Int)] 70 (0, 0)) := (hb.block b h.lt).trans h.blk
  refine ⟨⟨?_, ?_, hm, .inl h.inS, fun k hk => .inr (World.ownsRow.lt ho k hk).1⟩, (Fr.of_new hb _).then (Fr.setCell (fun k => k = b) w1 (p := ⟨b, 0, none⟩) (show b = b from rfl) v1)⟩
  · rw [setCell_same e1]
    rfl
  · refine ho.low.keep fun k hk => setCell_other ?_ _
    have := (World.ownsRow.lt ho k hk).1
    have := h.lt
    omega
theorem FileAt.synced {b : Nat} {v : Value} {f : Fl} (h : FileAt w S b v f) :
    FileAt (w.setCell ⟨b, 1, none⟩ (.int .i64 (f.data.length : Int))) S b v ⟨f.name, f.data, f.data.length⟩ ∧ Fr (fun k => k = b) w (w.setCell ⟨b, 1, none⟩ (.int .i64 (f.data.length : Int))) := by
  refine ⟨⟨?_, ?_, Nat.le_refl _, h.inS, h.row⟩, Fr.setCell (fun k => k = b) w (p := ⟨b, 1, none⟩) (show b = b from rfl) _⟩
  · rw [setCell_same h.blk]
    rfl
  · refine h.own.keep fun k hk => setCell_other ?_ _
    rintro rfl
    obtain ⟨cur, hc⟩ := h.own.heap hk
    exact kind_ne hc h.blk (by decide) rfl
end
end Go.Proofs.YtlbfgkocpjlamaaGreatDoor

/-
  The walk over remove: the file is gone; its blocks lie there as they were.
-/
namespace Go.Proofs.YtlbfgkocpjlamaaGreatDoor
open Go.RowKit

set_option maxHeartbeats 400000 in
theorem remove_none (w : World) (S : Nat → Prop) (db : Nat) (D : Dsk) (h : Dk w S db D) (s : List UInt8) (hs : s.length ≤ maxLen) (hn : look s D.files = none) :
    Calls Tryz.prog 49 #[.pointer (some ⟨db, 0, none⟩), .string ⟨s.toArray⟩] w fun e w' => e = .returned (.tuple #[]) ∧ w = w' := by
  obtain ⟨mv, loc, dat, h⟩ := h
  have c3 := h.c3
  have HN := Lib.hid hn
  clear hn
  go_enter Tryz.func49, Tryz.ntmps49
  go_wp2_with (at_lookup; refine wpList_look_none rfl _ _ rfl h.map s hs HN.out rfl rfl ?_)
  go_end0
  exact ⟨rfl, rfl⟩

set_option maxHeartbeats 400000 in
theorem remove_some (w : World) (S : Nat → Prop) (db : Nat) (D : Dsk) (mv : Value) (loc : List UInt8 → Nat) (dat : List UInt8 → Value) (h : DkAt w S db D mv loc dat) (s : List UInt8) (hs : s.length ≤ maxLen) (f : Fl) (hn : look s D.files = some f) :
    Calls Tryz.prog 49 #[.pointer (some ⟨db, 0, none⟩), .string ⟨s.toArray⟩] w fun e w' => e = .returned (.tuple #[]) ∧ DkAt w' S db { D with files := del s D.files } mv loc dat ∧ Fr (DBlk db mv) w w' := by
  have c3 := h.c3
  have c1 := h.c1
  have z1 := h.fz 1
  obtain ⟨hm, hnm⟩ := look_some hn
  have hf := h.files.each f hm
  have hl := h.file hm
  have c0 := hf.c0
  have hu := used_del h.srt s
  rw [hn] at hu
  have hu2 : (used D.files : Int) - (f.data.length : Int) = (used (del s D.files) : Int) := by simp only at hu; omega
  have hub := h.room
  have husz := h.size
  obtain ⟨p, cap, ev, h1, h2⟩ := hf.own.form
  rw [hnm] at c0
  rw [hnm] at ev
  rw [ev] at c0
  obtain ⟨mb, rfl, ho, hmb⟩ := h.hasMap hm
  have HH := Lib.hid h
  have HN := Lib.hid hn
  have HO := Lib.hid ho
  have HU := Lib.hid hu2
  have hlu := used_mem hm
  clear hn hm hf hu hu2 ev h ho hnm
  generalize hL : f.data.length = L at *
  clear hL
  go_enter Tryz.func49, Tryz.ntmps49
  go_wp2_with (at_lookup; refine wpList_look_some rfl _ _ rfl HH.out.map s hs HN.out rfl rfl ?_)
  go_region
  all_goals (go_wp2_with (at_delete; refine wpList_delete_own _ rfl _ _ 50 9 rfl 66 law Tryz.underlying50 ptrElem mb D.files.length (dm loc D.files) rfl (HO.out.setCell hmb _) _ _ rfl (key_of s hs) ?_; intro w1 hown1 hturn1))
  all_goals
    go_end0
    have hs1 := (Fr.setCell (DBlk db (.map (some mb))) w (p := ⟨db, 1, none⟩) (.inl rfl) (.int .i64 ((used D.files : Int) - (L : Int)))).drew
    have hs2 : Fr (DBlk db (.map (some mb))) _ w1 := Fr.grown hturn1.grown (fun k e => .inr (by rw [Option.some.inj e]))
    have hfr := hs1.then hs2
    have hb1 := setCell_same HH.out.blk (off := 1) (.int .i64 ((used D.files : Int) - (L : Int)))
    have hb2 := (hturn1.grown.block db (by simpa using HH.out.lt) (by simpa using Ne.symm hmb)).trans hb1
    rw [HU.out] at hb2
    refine ⟨rfl, HH.out.delFile (n := D.files.length) rfl hfr hb2 ?_ (fun _ _ hs => hs), hfr⟩
    rw [← dm_del]
    exact hown1
end Go.Proofs.YtlbfgkocpjlamaaGreatDoor
