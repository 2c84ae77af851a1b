/-
  The walk over glacierlaw2.DiskFills.
-/
import Derived.Test.YtlekffhacmdnnaaKnW
import Derived.Test.YtlekffhacmdnnaaRnP
import Derived.Laws.MakeOwn
import Derived.Deep.DeepCutAuto
namespace Go.Proofs.Ytlekffhacmdnnaa
open Go.RowKit

def zeros (n : Nat) : List UInt8 := List.replicate n 0
theorem zeros_len (n : Nat) : (zeros n).length = n := by simp [zeros]
theorem mk_run (n : Nat) (h : n ≤ 1099511627776) (W : World) : (Instr.makeSlice 33 (.int .i64 (n : Int)) (.int .i64 (n : Int))).run Try.prog W = .ok (.slice (some ⟨W.heap.size, 0, none⟩) n n) (W.alloc (.cells (bs (zeros n)).toArray 5)) := by
  obtain ⟨i0, hi, hz0, hz1, hz2⟩ := info_parts infoU8
  have h1 := run_make (P := Try.prog) W 33 5 i0 (.int .u8 0) Try.underlying33 hi hz0 .i64 .i64 (n : Int) (n : Int) (by omega) (by omega) (by rw [hz2]; omega) (by omega)
  have e : madeCells (Value.int .u8 0).cells (((n : Nat) : Int).toNat * i0.size) = (bs (zeros n)).toArray := by
    rw [hz1]
    apply Array.ext
    · simp [madeCells, zeros, bs]
    · intro i h2 h3
      have hv : (Value.int IntKind.u8 0).cells = #[Value.int .u8 0] := rfl
      simp [madeCells, zeros, bs, bv, hv, Nat.mod_one]
  rw [e] at h1
  simpa using h1
/-- What came in, read behind what was made since. -/
theorem RdV.lift {W w' : World} {v : Value} {xs : List Value} (h : RdV W (fun _ => False) v xs) (hb : Below W.heap.size W w') {n : Nat} (hn : W.heap.size ≤ n) (m : Nat) : RdV w' (Iv n m) v xs :=
  h.step (Fr.of_new hb _) fun k hk hi => by
    have := hi.1
    omega
def abc (k : Nat) : List UInt8 := if k % 3 = 0 then [97] else if k % 3 = 1 then [98] else [99]
theorem abc_name (k : Nat) : isName (abc k) = true := by
  unfold abc
  split
  · decide
  · split <;> decide
theorem used_dels {D : Dsk} (h : Srt D.files) {s : List UInt8} {f : Fl} (hl : look s D.files = some f) : used (dels D [s]).files + f.data.length = used D.files := by
  have := used_del h s
  rw [hl] at this
  exact this
theorem len_dels (D : Dsk) (s : List UInt8) : (dels D [s]).files.length ≤ D.files.length := List.length_filter_le _ _

/-- The disk of the law, ahead of a round. -/
structure Fil (n z k : Nat) (w0 wr : World) (D : Dsk) : Prop where
  dk : Dk wr (Iv n wr.heap.size) n D
  below : Below n w0 wr
  le : n ≤ wr.heap.size
  size : D.size = z
  cnt : D.files.length ≤ k
theorem Fil.srt {n z k : Nat} {w0 wr : World} {D : Dsk} (h : Fil n z k w0 wr D) : Srt D.files ∧ used D.files ≤ z := by
  obtain ⟨_, _, _, hd⟩ := h.dk
  exact ⟨hd.srt, by rw [← h.size]; exact hd.room⟩

theorem Fil.keep {n z k : Nat} {w0 wr w' : World} {D : Dsk} (h : Fil n z k w0 wr D) (hb : Below wr.heap.size wr w') {k' : Nat} (hk : k ≤ k') : Fil n z k' w0 w' D :=
  ⟨(h.dk.after hb).mono fun _ hlt hi => ⟨hi.1, hlt⟩, h.below.trans (hb.mono h.le), Nat.le_trans h.le hb.size, h.size, Nat.le_trans h.cnt hk⟩
theorem Fil.next {n z k : Nat} {w0 wr W3 w2 : World} {D D' : Dsk} {S : Nat → Prop} (h : Fil n z k w0 wr D) (hb : Below wr.heap.size wr W3) (hf : Fr (Iv n wr.heap.size) W3 w2) (hd : Dk w2 S n D') (hS : ∀ j, S j → n ≤ j) (hs : D'.size = D.size) {k' : Nat} (hc : D'.files.length ≤ k') : Fil n z k' w0 w2 D' := by
  have h3 := Nat.le_trans h.le hb.size
  exact ⟨hd.iv0 hS, (h.below.trans (hb.mono h.le)).trans (hf.iv h3 (Iv.low _ _)), Nat.le_trans h3 hf.size, hs.trans h.size, hc⟩
theorem More.low {n a : Nat} {m : Nat} (h : n ≤ a) : ∀ j, More (Iv n m) a j → n ≤ j := fun _ hj => hj.elim (fun hi => hi.1) (fun hle => Nat.le_trans h hle)
theorem used_is (w : World) (S : Nat → Prop) (db : Nat) (D : Dsk) (h : Dk w S db D) (u : Int) (hu : (used D.files : Int) = u) :
    Calls Try.prog 25 #[.pointer (some ⟨db, 0, none⟩)] w fun e w' => e = .returned (.int .i64 u) ∧ w = w' := by
  subst hu
  exact used_any w S db D h
theorem abc_cell (w : World) (k : Nat) (t : TypeId) : (w.alloc (.cells #[.string ⟨#[97]⟩, .string ⟨#[98]⟩, .string ⟨#[99]⟩] t)).cell? ⟨w.heap.size, k % 3, none⟩ = some (.string ⟨(abc k).toArray⟩) := by
  refine cell_of (heap_alloc_new w _) ?_
  have h : k % 3 = 0 ∨ k % 3 = 1 ∨ k % 3 = 2 := by omega
  unfold abc
  rcases h with h | h | h <;> simp [h]

set_option maxRecDepth 100000 in
set_option maxHeartbeats 8000000 in
theorem fills_main (W : World) (z : Nat) (hz1 : 1 ≤ z) (hz2 : z ≤ 65536) (v1 : Value) (ps : List Int) (h1 : RdV W (fun _ => False) v1 (ps.map (Value.int .i64))) (hpl : ps.length ≤ 100) (hps : ∀ p ∈ ps, -9223372036854775808 ≤ p ∧ p ≤ 9223372036854775807) :
    Calls Try.prog 6 #[.int .i64 (z : Int), v1] W fun e w' => e = .returned (.bool true) ∧ Below W.heap.size W w' := by
  have HR1 := Lib.hid h1
  have HPS := Lib.hid hps
  have hf := h1.form
  rw [List.length_map] at hf
  obtain ⟨p1, cap1, rfl, hc1, hl1, hm1⟩ := hf
  clear h1 hps
  go_enter Try.func6, Try.ntmps6
  go_wp2_with fail
  refine (known_any W).mono ?_
  rintro e w0 ⟨rfl, hb0⟩
  have hz0 := hb0.size
  have HB0 := Lib.hid hb0
  clear hb0
  go_wp2_with fail
  refine (new_any w0 z hz1 (by omega)).mono ?_
  rintro e w1 ⟨rfl, hd1, hb1⟩
  have HF1 : Hid (Fil w0.heap.size z 0 w0 w1 ⟨z, [], 0⟩) := Lib.hid ⟨hd1.iv0 (fun _ h => h), hb1, hb1.size, rfl, by simp⟩
  clear hd1 hb1
  go_wp2_with fail
  go_loopw [7, 8, 9, 10, 11, 12, 13] (fun left i _ _ _ _ _ wr => ∃ (k : Nat) (D : Dsk), k ≤ ps.length ∧ i = .int .i64 (k : Int) ∧ left = .int .i64 ((z : Int) - (used D.files : Int)) ∧ Hid (Fil w0.heap.size z k w0 wr D)) (fun _ i _ _ _ _ _ _ => ps.length - (intOf i).toNat)
  case atStart => exact ⟨0, ⟨z, [], 0⟩, by omega, rfl, by simp [used], HF1⟩
  case round =>
    obtain ⟨k, D, hk, rfl, rfl, HF⟩ := hrel
    have hsr := HF.out.srt
    by_cases hlt : k < ps.length
    · obtain ⟨b, off, rfl, hb, hT, hc⟩ := (HR1.out.lift (HB0.out.trans (HF.out.below.mono hz0)) (n := w0.heap.size) hz0 0).atv (k := k) (x := .int .i64 ps[k]) (by simp [hlt])
      have hpb := HPS.out ps[k] (List.getElem_mem hlt)
      generalize ps[k] = p at *
      go_upto_if 55 with (fail)
      have t1 := Int.tmod_lt_of_pos p (show (0 : Int) < (z : Int) + 2 by omega)
      have t2 := Int.lt_tmod_of_pos p (show (0 : Int) < (z : Int) + 2 by omega)
      generalize p.tmod ((z : Int) + 2) = r at *
      go_cut [9] (fun s9 wx => ∃ N : Nat, N ≤ z + 1 ∧ s9 = .int .i64 (N : Int) ∧ wr = wx)
      case first =>
        by_cases hneg : r < 0
        · go_wp2_with fail
          go_meet
          exact ⟨(-r).toNat, by omega, by rw [show (((-r).toNat : Nat) : Int) = -r by omega], rfl⟩
        · go_wp2_with fail
          go_meet
          exact ⟨r.toNat, by omega, by rw [show ((r.toNat : Nat) : Int) = r by omega], rfl⟩
      case rest =>
        obtain ⟨N, hN, rfl, rfl⟩ := hcut
        have HMk := mk_run N (by omega)
        have hab := abc_cell wr k 9
        clear t1 t2 hc hpb
        obtain ⟨U, hU⟩ : ∃ U, used D.files = U := ⟨_, rfl⟩
        rw [hU] at hsr ⊢
        have hUz := hsr.2
        have HSr := Lib.hid hsr.1
        have HU := Lib.hid hU
        have HP : Hid (RdW (((wr.alloc (.cells #[.string ⟨#[97]⟩, .string ⟨#[98]⟩, .string ⟨#[99]⟩] 9)).alloc (.cells (bs (zeros N)).toArray 5)).alloc (.cells #[.slice (some ⟨wr.heap.size + 1, 0, none⟩) N N] 33)) (Iv w0.heap.size wr.heap.size) (.slice (some ⟨wr.heap.size + 2, 0, none⟩) 1 1) [zeros N]) := Lib.hid (by
          have := parts1 (wr.alloc (.cells #[.string ⟨#[97]⟩, .string ⟨#[98]⟩, .string ⟨#[99]⟩] 9)) (Iv w0.heap.size wr.heap.size) (zeros N) 5 33 (0, 0) _ N rfl (zeros_len N).symm (by rw [zeros_len]; omega) (fun j hj => Iv.new _ _ j (by simp at hj; omega))
          rw [show (wr.alloc (.cells #[.string ⟨#[97]⟩, .string ⟨#[98]⟩, .string ⟨#[99]⟩] 9)).heap.size = wr.heap.size + 1 by simp] at this
          exact this)
        have HB3 : Hid (Below wr.heap.size wr (((wr.alloc (.cells #[.string ⟨#[97]⟩, .string ⟨#[98]⟩, .string ⟨#[99]⟩] 9)).alloc (.cells (bs (zeros N)).toArray 5)).alloc (.cells #[.slice (some ⟨wr.heap.size + 1, 0, none⟩) N N] 33))) := Lib.hid ((((Below.refl _ _).alloc (Nat.le_refl _) _).alloc (by simp) _).alloc (by simp; omega) _)
        have hle := HF.out.le
        have hcn := HF.out.cnt
        clear hsr hU
        by_cases hfit : U + N ≤ z
        · have hfi : (N : Int) ≤ (z : Int) - (U : Int) := by omega
          go_wp2_with fail
          refine (append_some _ (Iv w0.heap.size wr.heap.size) w0.heap.size D (HF.out.dk.after HB3.out) (abc k) _ [zeros N] HP.out (abc_name k) (by rw [flen_one, zeros_len, HF.out.size, HU.out]; exact hfit) (by omega)).mono ?_
          rintro e w2 ⟨rfl, hd2, hf2⟩
          rw [flat_one] at hd2
          have hl2 := len_app D (abc k) (zeros N)
          have HF2 : Hid (Fil w0.heap.size z (k + 1) w0 w2 (app D (abc k) (zeros N))) := Lib.hid (HF.out.next HB3.out hf2 hd2 (More.low (by simp; omega)) rfl (by omega))
          have HU2 : Hid (used (app D (abc k) (zeros N)).files = U + N) := Lib.hid (by rw [used_app HSr.out, zeros_len, HU.out])
          clear hd2 hf2 hab HMk
          go_wp2_with fail
          refine (used_is w2 _ _ _ HF2.out.dk ((z : Int) - ((z : Int) - (U : Int) - (N : Int))) (by rw [HU2.out]; omega)).mono ?_
          rintro e w3 ⟨rfl, rfl⟩
          by_cases h5 : k % 5 = 4
          · have e5 : ((k : Int) % 5 == 4) = true := by simp; omega
            rcases hq : look [97] (app D (abc k) (zeros N)).files with _ | f
            · have HRd := Lib.hid (read_none _ _ _ _ HF2.out.dk [97] (by unfold maxLen; simp) hq)
              clear h5 hq
              go_wp2_with fail
              refine HRd.out.mono ?_
              rintro e w3 ⟨rfl, rfl⟩
              go_wp2_with fail
              go_roundw
              case rel => exact ⟨k + 1, (app D (abc k) (zeros N)), by omega, by go_num, by rw [HU2.out, Int.natCast_add, Int.sub_sub], HF2⟩
              case measure => simp [intOf]; omega
            · have HRd := Lib.hid (read_some _ _ _ _ HF2.out.dk [97] (by unfold maxLen; simp) f hq)
              have hds := used_dels HF2.out.srt.1 hq
              have hfl : f.data.length ≤ z := by
                have := HF2.out.srt.2
                omega
              have HDs := Lib.hid hds
              have HQ := Lib.hid hq
              clear h5 hq hds
              go_wp2_with fail
              refine HRd.out.mono ?_
              rintro e w3 ⟨v3, rfl, ho3, hb3⟩
              obtain ⟨p3, cap3, rfl, _, _⟩ := ho3.form
              have HF3 : Hid (Fil w0.heap.size z (k + 1) w0 w3 (app D (abc k) (zeros N))) := Lib.hid (HF2.out.keep hb3 (Nat.le_refl _))
              clear ho3 hb3
              go_wp2_with fail
              refine (delete_yes _ (Iv w0.heap.size w3.heap.size) w0.heap.size (app D (abc k) (zeros N)) (HF3.out.dk.after ((Below.refl _ _).alloc (Nat.le_refl _) _)) _ [[97]] (name1 w3 _ [97] _ (Iv.new _ _)) (short1 (by simp)) (hasOne HQ.out)).mono ?_
              rintro e w4 ⟨rfl, hd4, hf4⟩
              have HF4 : Hid (Fil w0.heap.size z (k + 1) w0 w4 (dels (app D (abc k) (zeros N)) [[97]])) := Lib.hid (HF3.out.next ((Below.refl _ _).alloc (Nat.le_refl _) _) hf4 hd4 (Iv.low _ _) rfl (Nat.le_trans (len_dels _ _) HF3.out.cnt))
              clear hd4 hf4
              go_wp2_with fail
              go_roundw
              case rel => exact ⟨k + 1, dels (app D (abc k) (zeros N)) [[97]], by omega, by go_num, by
                have h1 := HDs.out
                rw [HU2.out] at h1
                rw [show ((used (dels (app D (abc k) (zeros N)) [[97]]).files : Nat) : Int) = (U : Int) + (N : Int) - (f.data.length : Int) by omega]
                congr 1
                omega, HF4⟩
              case measure => simp [intOf]; omega
          · have e5 : ((k : Int) % 5 == 4) = false := by simp; omega
            clear h5
            go_wp2_with fail
            go_roundw
            case rel => exact ⟨k + 1, (app D (abc k) (zeros N)), by omega, by go_num, by rw [HU2.out, Int.natCast_add, Int.sub_sub], HF2⟩
            case measure => simp [intOf]; omega
        · have hfi : (z : Int) - (U : Int) < (N : Int) := by omega
          go_wp2_with fail
          refine (append_full _ (Iv w0.heap.size wr.heap.size) (Iv w0.heap.size wr.heap.size) w0.heap.size D (HF.out.dk.after HB3.out) (abc k) _ [zeros N] HP.out (abc_name k) (by rw [flen_one, zeros_len, HF.out.size, HU.out]; exact hfit)).mono ?_
          rintro e w2 ⟨rfl, nd, rfl⟩
          have HF2 : Hid (Fil w0.heap.size z (k + 1) w0 _ D) := Lib.hid (HF.out.keep (below_drewN HB3.out nd) (Nat.le_succ k))
          clear hab HMk
          go_wp2_with fail
          refine (used_is _ _ _ _ HF2.out.dk ((z : Int) - ((z : Int) - (U : Int))) (by rw [HU.out]; omega)).mono ?_
          rintro e w3 ⟨rfl, rfl⟩
          by_cases h5 : k % 5 = 4
          · have e5 : ((k : Int) % 5 == 4) = true := by simp; omega
            rcases hq : look [97] D.files with _ | f
            · have HRd := Lib.hid (read_none _ _ _ _ HF2.out.dk [97] (by unfold maxLen; simp) hq)
              clear h5 hq
              go_wp2_with fail
              refine HRd.out.mono ?_
              rintro e w3 ⟨rfl, rfl⟩
              go_wp2_with fail
              go_roundw
              case rel => exact ⟨k + 1, D, by omega, by go_num, by rw [HU.out], HF2⟩
              case measure => simp [intOf]; omega
            · have HRd := Lib.hid (read_some _ _ _ _ HF2.out.dk [97] (by unfold maxLen; simp) f hq)
              have hds := used_dels HF2.out.srt.1 hq
              have hfl : f.data.length ≤ z := by
                have := HF2.out.srt.2
                omega
              have HDs := Lib.hid hds
              have HQ := Lib.hid hq
              clear h5 hq hds
              go_wp2_with fail
              refine HRd.out.mono ?_
              rintro e w3 ⟨v3, rfl, ho3, hb3⟩
              obtain ⟨p3, cap3, rfl, _, _⟩ := ho3.form
              have HF3 : Hid (Fil w0.heap.size z (k + 1) w0 w3 D) := Lib.hid (HF2.out.keep hb3 (Nat.le_refl _))
              clear ho3 hb3
              go_wp2_with fail
              refine (delete_yes _ (Iv w0.heap.size w3.heap.size) w0.heap.size D (HF3.out.dk.after ((Below.refl _ _).alloc (Nat.le_refl _) _)) _ [[97]] (name1 w3 _ [97] _ (Iv.new _ _)) (short1 (by simp)) (hasOne HQ.out)).mono ?_
              rintro e w4 ⟨rfl, hd4, hf4⟩
              have HF4 : Hid (Fil w0.heap.size z (k + 1) w0 w4 (dels D [[97]])) := Lib.hid (HF3.out.next ((Below.refl _ _).alloc (Nat.le_refl _) _) hf4 hd4 (Iv.low _ _) rfl (Nat.le_trans (len_dels _ _) HF3.out.cnt))
              clear hd4 hf4
              go_wp2_with fail
              go_roundw
              case rel => exact ⟨k + 1, dels D [[97]], by omega, by go_num, by
                have h1 := HDs.out
                rw [HU.out] at h1
                rw [show ((used (dels D [[97]]).files : Nat) : Int) = (U : Int) - (f.data.length : Int) by omega]
                congr 1
                omega, HF4⟩
              case measure => simp [intOf]; omega
          · have e5 : ((k : Int) % 5 == 4) = false := by simp; omega
            clear h5
            go_wp2_with fail
            go_roundw
            case rel => exact ⟨k + 1, D, by omega, by go_num, by rw [HU.out], HF2⟩
            case measure => simp [intOf]; omega
    · obtain ⟨U, hU⟩ : ∃ U, used D.files = U := ⟨_, rfl⟩
      rw [hU] at hsr ⊢
      have hUz := hsr.2
      obtain ⟨L, hL⟩ : ∃ L, U + L = z := ⟨z - U, by omega⟩
      have HMk := mk_run L (by omega)
      rw [show ((L : Nat) : Int) = (z : Int) - (U : Int) by omega] at HMk
      have HSr := Lib.hid hsr.1
      have HU := Lib.hid hU
      have hle := HF.out.le
      have hcn := HF.out.cnt
      have HP := Lib.hid (parts1 wr (Iv w0.heap.size wr.heap.size) (zeros L) 5 33 (0, 0) _ L rfl (zeros_len L).symm (by rw [zeros_len]; omega) (Iv.new _ _))
      have HB3 := Lib.hid (((Below.refl wr.heap.size wr).alloc (Nat.le_refl _) (.cells (bs (zeros L)).toArray 5)).alloc (by simp) (.cells #[.slice (some ⟨wr.heap.size, 0, none⟩) L L] 33))
      clear hsr hU
      go_wp2_with fail
      refine (append_some _ (Iv w0.heap.size wr.heap.size) w0.heap.size D (HF.out.dk.after HB3.out) [122] _ [zeros L] HP.out (by decide) (by rw [flen_one, zeros_len, HF.out.size, HU.out]; omega) (by omega)).mono ?_
      rintro e w2 ⟨rfl, hd2, hf2⟩
      rw [flat_one] at hd2
      have hl2 := len_app D [122] (zeros L)
      have HF2 : Hid (Fil w0.heap.size z (k + 1) w0 w2 (app D [122] (zeros L))) := Lib.hid (HF.out.next HB3.out hf2 hd2 (More.low (by simp; omega)) rfl (by omega))
      have HU2 : Hid (used (app D [122] (zeros L)).files = z) := Lib.hid (by rw [used_app HSr.out, zeros_len, HU.out]; exact hL)
      clear hd2 hf2 HMk
      have HP2 := Lib.hid (parts1 w2 (Iv w0.heap.size w2.heap.size) [1] 5 33 (0, 0) #[.int .u8 1] 1 (by simp [bs, bv]) rfl (by simp) (Iv.new _ _))
      have HB4 := Lib.hid (((Below.refl w2.heap.size w2).alloc (Nat.le_refl _) (.cells #[.int .u8 1] 5)).alloc (by simp) (.cells #[.slice (some ⟨w2.heap.size, 0, none⟩) 1 1] 33))
      go_wp2_with fail
      refine (append_full _ (Iv w0.heap.size w2.heap.size) (Iv w0.heap.size w2.heap.size) w0.heap.size (app D [122] (zeros L)) (HF2.out.dk.after HB4.out) [122] _ [[1]] HP2.out (by decide) (by rw [flen_one, HU2.out, HF2.out.size]; simp)).mono ?_
      rintro e w3 ⟨rfl, nd, rfl⟩
      have HF3 : Hid (Fil w0.heap.size z (k + 1) w0 _ (app D [122] (zeros L))) := Lib.hid (HF2.out.keep (below_drewN HB4.out nd) (Nat.le_refl _))
      go_wp2_with (go_at_call 25; refine (used_is _ _ _ _ HF3.out.dk (z : Int) (by rw [HU2.out])).mono ?_; rintro e w4 ⟨rfl, rfl⟩)
      go_ret
      exact ⟨rfl, HB0.out.trans (HF3.out.below.mono hz0)⟩

set_option maxRecDepth 100000 in
set_option maxHeartbeats 1000000 in
theorem fills_off (W : World) (z : Int) (v1 : Value) (ps : List Int) (h1 : RdV W (fun _ => False) v1 (ps.map (Value.int .i64))) (hz : z < 1 ∨ 65536 < z ∨ 100 < ps.length) :
    Calls Try.prog 6 #[.int .i64 z, v1] W fun e w' => e = .returned (.bool true) ∧ Below W.heap.size W w' := by
  have hf := h1.form
  rw [List.length_map] at hf
  obtain ⟨p1, cap1, rfl, hc1, hl1, hm1⟩ := hf
  clear h1
  by_cases c1 : z < 1
  · go_enter Try.func6, Try.ntmps6
    go_wp2_with fail
    refine (known_any W).mono ?_
    rintro e w0 ⟨rfl, hb0⟩
    go_wp2_with fail
    go_ret
    exact ⟨rfl, hb0⟩
  · by_cases c2 : 65536 < z
    · go_enter Try.func6, Try.ntmps6
      go_wp2_with fail
      refine (known_any W).mono ?_
      rintro e w0 ⟨rfl, hb0⟩
      go_wp2_with fail
      go_ret
      exact ⟨rfl, hb0⟩
    · have c3 : 100 < ps.length := by omega
      go_enter Try.func6, Try.ntmps6
      go_wp2_with fail
      refine (known_any W).mono ?_
      rintro e w0 ⟨rfl, hb0⟩
      go_wp2_with fail
      go_ret
      exact ⟨rfl, hb0⟩

theorem fills_any (W : World) (z : Int) (v1 : Value) (ps : List Int) (h1 : RdV W (fun _ => False) v1 (ps.map (Value.int .i64))) (hps : ∀ p ∈ ps, -9223372036854775808 ≤ p ∧ p ≤ 9223372036854775807) :
    Calls Try.prog 6 #[.int .i64 z, v1] W fun e w' => e = .returned (.bool true) ∧ Below W.heap.size W w' := by
  by_cases h : z < 1 ∨ 65536 < z ∨ 100 < ps.length
  · exact fills_off W z v1 ps h1 h
  · obtain ⟨n, rfl⟩ := Int.eq_ofNat_of_zero_le (show 0 ≤ z by omega)
    exact fills_main W n (by omega) (by omega) v1 ps h1 (by omega) hps
end Go.Proofs.Ytlekffhacmdnnaa
