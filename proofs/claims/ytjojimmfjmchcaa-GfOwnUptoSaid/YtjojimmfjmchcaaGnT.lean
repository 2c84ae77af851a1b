/-
  The walk over the law's spoil.
-/
import Derived.Test.YtjojimmfjmchcaaGnS
namespace Go.Proofs.Ytjojimmfjmchcaa
open Go.RowKit

theorem OwL.shape {w : World} {G : Nat → Prop} {v : Value} {us : List Value} {rows : List (List UInt8)} (h : OwL w G v us rows) : ∃ p cap, v = .slice p rows.length cap := by
  rcases h.row.2 with ⟨e, h0⟩ | ⟨g, cap, cur, e, _⟩
  · exact ⟨none, 0, by rw [e, h0]⟩
  · exact ⟨_, _, e⟩
theorem lens_set {rows : List (List UInt8)} {i : Nat} {l l' : List UInt8} (h : rows[i]? = some l) (hl : l'.length = l.length) : (rows.set i l').map List.length = rows.map List.length := by
  refine List.ext_getElem? fun k => ?_
  rw [List.getElem?_map, List.getElem?_map, List.getElem?_set]
  by_cases e : i = k
  · subst e
    rw [if_pos rfl, h]
    have hlt := (List.getElem?_eq_some_iff.1 h).1
    rw [if_pos hlt]
    simp [hl]
  · rw [if_neg e]
theorem lens_at {rows rows' : List (List UInt8)} (h : rows'.map List.length = rows.map List.length) {i : Nat} {l : List UInt8} (hl : rows[i]? = some l) : ∃ l', rows'[i]? = some l' ∧ l'.length = l.length := by
  have h1 := congrArg (fun x => x[i]?) h
  simp only [List.getElem?_map, hl, Option.map_some] at h1
  cases h2 : rows'[i]? with
  | none => rw [h2] at h1; cases h1
  | some l' =>
    rw [h2] at h1
    exact ⟨l', rfl, Option.some.inj h1⟩
theorem add_one (x : UInt8) : ((x.toNat : Int) + 1) % 256 = ((x + 1).toNat : Int) := by
  rw [UInt8.toNat_add]
  simp
set_option maxRecDepth 100000 in
set_option maxHeartbeats 2000000 in
theorem spoil_any (w : World) (G : Nat → Prop) (v : Value) (us : List Value) (rows : List (List UInt8)) (h : OwL w G v us rows) (h1 : rows.length ≤ 1048576) (h2 : ∀ l ∈ rows, l.length ≤ 1048576) :
    Calls Try.prog 37 #[v] w fun e w' => e = .returned (.tuple #[]) ∧ Fr G w w' := by
  have HO := Lib.hid h
  have HM := Lib.hid h2
  obtain ⟨p, cap, rfl⟩ := h.shape
  clear h h2
  go_enter Try.func37, Try.ntmps37
  go_wp2_with fail
  go_loopw [2, 3] (fun i y wr => ∃ (k : Nat) (rows' : List (List UInt8)), k ≤ rows.length ∧ i = .int .i64 (k : Int) ∧ OwL wr G (.slice p rows.length cap) us rows' ∧ rows'.map List.length = rows.map List.length ∧ Fr G w wr) (fun i _ _ => rows.length - (intOf i).toNat)
  case atStart => exact ⟨0, rows, by omega, rfl, HO.out, rfl, Fr.refl _ _⟩
  case round =>
    obtain ⟨k, rows', hk, rfl, ho, hle, hf⟩ := hrel
    have HO2 := Lib.hid ho
    have HLe := Lib.hid hle
    have HF := Lib.hid hf
    by_cases hlt : k < rows.length
    · have d1 : decide ((k : Int) < (rows.length : Int)) = true := decide_eq_true (by omega)
      have d2 : decide (k < rows.length) = true := decide_eq_true hlt
      have hrk : rows[k]? = some rows[k] := List.getElem?_eq_getElem hlt
      have hml := HM.out _ (List.getElem_mem hlt)
      have HRk := Lib.hid hrk
      obtain ⟨L, hL⟩ : ∃ L, rows[k].length = L := ⟨_, rfl⟩
      rw [hL] at hml
      have HL := Lib.hid hL
      clear ho hle hf hrk hL
      go_wp2_with fail
      go_loopw [3] (fun i wi => ∃ (j : Nat) (rows' : List (List UInt8)), j ≤ L ∧ i = .int .i64 (j : Int) ∧ OwL wi G (.slice p rows.length cap) us rows' ∧ rows'.map List.length = rows.map List.length ∧ Fr G w wi) (fun i _ => L - (intOf i).toNat)
      case atStart => exact ⟨0, rows', by omega, rfl, HO2.out, HLe.out, HF.out⟩
      case round =>
        obtain ⟨j, rows2, hj, rfl, ho, hle, hf⟩ := hrel
        have HO2 := Lib.hid ho
        have HLe := Lib.hid hle
        have HF := Lib.hid hf
        obtain ⟨l', hl', hll⟩ := lens_at hle HRk.out
        obtain ⟨mb, cap', u, hv, _, _, _, _, hu, k1, _, hou⟩ := ho.at_ hl'
        obtain ⟨rfl, h9, rfl⟩ : p = some ⟨mb, 0, none⟩ ∧ rows.length = rows2.length ∧ cap = cap' := by simpa using hv
        obtain ⟨pu, cu, rfl⟩ := own_shape hou
        have hlL : l'.length = L := hll.trans HL.out
        rw [hlL] at k1 hu hou
        by_cases hjl : j < L
        · have d3 : decide ((j : Int) < (L : Int)) = true := decide_eq_true (by omega)
          have d4 : decide (j < L) = true := decide_eq_true hjl
          obtain ⟨g, cp, hgu, _, _, _⟩ := own_form hou (by omega)
          obtain ⟨rfl, h10, rfl⟩ : pu = some ⟨g, 0, none⟩ ∧ L = l'.length ∧ cu = cp := by simpa using hgu
          obtain ⟨k2, f2⟩ := own_cell hou (i := j) (by omega)
          have HU := Lib.hid (And.intro hu hl')
          have hw8 := add_one (l'.getD j 0)
          have HLl := Lib.hid hlL
          have HGu : Hid (G g) := Lib.hid (HO2.out.blks k _ g hu rfl)
          generalize l'.getD j 0 = x at *
          generalize x + 1 = y at *
          clear ho hle hf hv h9 hgu h10 hou hu hl' hlL hll
          go_wp2_with fail
          refine wp_region_quiet_tail 14 (by kernel_rfl) (by kernel_rfl) ?_
          simp only [List.take_succ_cons, List.take_zero, List.drop_succ_cons, List.drop_zero]
          repeat (go_big_quiet_step (fail))
          refine wpQuiet_nil ?_
          go_wp2_with fail
          refine ⟨⟨j + 1, rows2.set k (l'.set j y), by omega, by go_num, ?_, ?_, ?_⟩, by simp [intOf]; omega⟩
          · exact (HO2.out.below (below_drew (Below.refl _ _))).put (j := j) HU.out.1 HU.out.2 y
          · rw [lens_set HU.out.2 (by simp)]
            exact HLe.out
          · exact HF.out.then ((Fr.refl G wr).drew.then (Fr.setCell G wr.drew (p := ⟨g, j, none⟩) HGu.out _))
        · obtain rfl : j = L := by omega
          clear ho hle hf hv h9 hou hu hl' hlL hll
          go_wp2_with fail
          exact ⟨⟨k + 1, rows2, by omega, by go_num, HO2.out, HLe.out, HF.out⟩, by simp [intOf]; omega⟩
    · obtain rfl : k = rows.length := by omega
      clear ho hle hf
      go_wp2_with fail
      go_end0
      exact ⟨rfl, HF.out⟩
end Go.Proofs.Ytjojimmfjmchcaa
