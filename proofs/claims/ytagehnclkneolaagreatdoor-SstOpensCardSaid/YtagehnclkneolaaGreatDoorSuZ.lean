/-
  What the row's list gives the walk of SstOpens beside the tables: the powers of ten, the type error; an argument's reading as bytes.
-/
import Derived.Test.YtagehnclkneolaaGreatDoorSuY
import Derived.Test.YtagehnclkneolaaGreatDoorLaZ
import Derived.Deep.Matrix
import Derived.SizedLaws
namespace Go.Proofs.YtagehnclkneolaaGreatDoor
open Go.ChangeShapes Go.WideShapes Go.ChangeAt Go.RowKit Go.Deep

theorem pow_of2 {W : World} (h : laidMetH Tryz.prog [("math/bits.deBruijn32tab", Rows.laid_math_bits_deBruijn32tab), ("math/bits.deBruijn64tab", Rows.laid_math_bits_deBruijn64tab), ("internal/strconv.uint64pow10", Rows.laid_internal_strconv_uint64pow10), ("errors.errorType", Rows.laid_errors_errorType), ("glacier/codec.ofLow", Rows.laid_glacier_codec_ofLow), ("glacier/codec.ofHigh", Rows.laid_glacier_codec_ofHigh)] W) : Pow W := by
  have h1 := pow_of h
  have ep : powZ = Lib.pow10Tab := by decide +kernel
  rw [ep] at h1
  exact h1
theorem eTyAt : Tryz.prog.globalNamed "errors.errorType" = some 0 := by kernel_rfl
theorem eTyRt : (Tryz.prog.cutTypes.find? (·.1 == "internal/reflectlite.rtype")).map (·.2) = some 149 := by kernel_rfl
theorem eTyRow : ((List.range 235).filter fun t => Tryz.prog.rowNamed t [101, 114, 114, 111, 114]) = [55] := by kernel_rfl
theorem eTySize : Tryz.prog.types.size = 235 := by kernel_rfl
theorem ety_of {W : World} (h : laidMetH Tryz.prog [("math/bits.deBruijn32tab", Rows.laid_math_bits_deBruijn32tab), ("math/bits.deBruijn64tab", Rows.laid_math_bits_deBruijn64tab), ("internal/strconv.uint64pow10", Rows.laid_internal_strconv_uint64pow10), ("errors.errorType", Rows.laid_errors_errorType), ("glacier/codec.ofLow", Rows.laid_glacier_codec_ofLow), ("glacier/codec.ofHigh", Rows.laid_glacier_codec_ofHigh)] W) : ETy W := by
  obtain ⟨name, u, ty, e1, e2, e3, e4, e5⟩ := (laid_parts h).2 _ (List.mem_singleton.2 rfl)
  have en : name = [101, 114, 114, 111, 114] := (Option.some.inj e1).symm
  subst en
  obtain rfl := Option.some.inj (eTyRt.symm.trans e2)
  have hm : ty ∈ (List.range 235).filter fun t => Tryz.prog.rowNamed t [101, 114, 114, 111, 114] := List.mem_filter.2 ⟨List.mem_range.2 (by rw [← eTySize]; exact e3), e4⟩
  rw [eTyRow] at hm
  obtain rfl := List.mem_singleton.1 hm
  have hh : typeHandle Tryz.prog 55 = .pointer (some ⟨7, 55, none⟩) := by kernel_rfl
  rw [hh] at e5
  have h1 := World.var?_cell eTyAt e5 0
  unfold ETy
  simpa using h1

theorem cellsU8 : Tryz.prog.cellsOf 5 = 1 := by kernel_rfl
theorem cellsBytes : Tryz.prog.cellsOf 22 = 1 := by kernel_rfl
theorem bytesU8 : Tryz.prog.bytesOf 5 = 1 := by kernel_rfl
theorem reach_eq : reachBytes = 140737488351232 := rfl

def toBytes (zs : List Int) : List UInt8 := zs.map fun n => UInt8.ofNat n.toNat
theorem toBytes_length (zs : List Int) : (toBytes zs).length = zs.length := by simp [toBytes]
theorem toBytes_at (zs : List Int) (hw : ∀ n ∈ zs, (Lit.int .u8 n).wf = true) (i len : Nat) (hi : i < len) (hl : len ≤ zs.length) :
    (((toBytes (zs.take len)).getD i 0).toNat : Int) = zs.getD i 0 := by
  have hz : i < zs.length := by omega
  have hb := Go.bounds_u8 (hw zs[i] (List.getElem_mem hz))
  have e1 : (toBytes (zs.take len)).getD i 0 = UInt8.ofNat (zs[i].toNat) := by
    simp [toBytes, hi, hz]
  have e2 : zs.getD i 0 = zs[i] := by simp [hz]
  rw [e1, e2, UInt8.toNat_ofNat']
  omega

/-- The cells of a row of bytes, however they were opened. -/
theorem rd_row {W : World} {a : Addr} {len cap : Nat} {zs : List Int} (hl : len ≤ cap) (hm : cap ≤ maxLen) (hz : zs.length = cap) (hlen : len ≤ 140737488355328)
    (hw : ∀ n ∈ zs, (Lit.int .u8 n).wf = true) (hc : ∀ i, i < zs.length → W.cell? (a.add i) = some (.int .u8 (zs.getD i 0))) : Rd W W.heap.size (.slice (some a) len cap) (toBytes (zs.take len)) := by
  have hlb : (toBytes (zs.take len)).length = len := by rw [toBytes_length, List.length_take]; omega
  refine ⟨some a, cap, by rw [hlb], by omega, ⟨by omega, by unfold maxLen at hm; omega, fun h => by cases h⟩, fun h0 => ?_⟩
  obtain ⟨b, off, rfl, hc2⟩ := ints_at hc (by omega)
  refine ⟨b, off, rfl, cell_lt (hc2 0 (by omega)), fun i hi => ?_⟩
  rw [hc2 i (by omega), toBytes_at zs hw i len (by omega) (by omega)]

theorem open_bytes {H : Type} {enc : TypeId × Value → H} {W : World} {v : Value} {d : DataW H} {ps : List MemPlace} (hok : ∃ a len cap, v = .slice a len cap)
    (h : DataW.Trod enc Tryz.prog W 0 (fun _ => true) true 22 v d ps) (hlen : ∀ elems spare, d = .slice elems spare → elems.length + spare.length ≤ 140737488355328) :
    ∃ l, Rd W W.heap.size v l ∧ ((d = .nil ∧ l = []) ∨ ∃ elems spare, d = .slice elems spare ∧ l.length = elems.length) := by
  obtain ⟨a0, len0, cap0, rfl⟩ := hok
  obtain ⟨fuel, hf⟩ := h
  rcases open_ints Tryz.underlying22 Tryz.underlying5 cellsU8 hf with ⟨hcs, hx⟩ | ⟨a, len, cap, zs, hcs, _, hl, hm, hz, hx, hcell, hwz⟩
  · have hv : Value.slice a0 len0 cap0 = .slice none 0 0 := (List.cons.inj hcs).1
    rw [hv]
    injection hx with hd _
    exact ⟨[], Rd.none_ _ _, .inl ⟨hd, rfl⟩⟩
  · have hv : Value.slice a0 len0 cap0 = .slice (some a) len cap := (List.cons.inj hcs).1
    rw [hv]
    injection hx with hd _
    simp only [if_true] at hz
    have hb := hlen _ _ hd
    simp only [lits, List.length_map, List.length_take, List.length_drop] at hb
    refine ⟨_, rd_row hl hm hz (by omega) hwz hcell, .inr ⟨_, _, hd, ?_⟩⟩
    rw [toBytes_length]
    simp [lits]

end Go.Proofs.YtagehnclkneolaaGreatDoor
