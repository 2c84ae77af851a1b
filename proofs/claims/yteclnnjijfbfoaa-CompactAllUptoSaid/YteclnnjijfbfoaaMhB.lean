/-
  The walk over glacierref6.two.
-/
import Derived.Test.YteclnnjijfbfoaaMhA
import Derived.Test.YteclnnjijfbfoaaEnS
namespace Go.Proofs.Yteclnnjijfbfoaa
open Go.RowKit

set_option maxRecDepth 100000 in
set_option maxHeartbeats 8000000 in
theorem r6_two (w : World) (F : Nat → Prop) (va vb : Value) (a b : List Ent) (ha : En w F va a) (hb : En w F vb b) (hsa : SrtE a) (hsb : SrtE b) (hl : a.length + b.length ≤ 1048576) :
    Calls Try.prog 21 #[va, vb] w fun r w' => ∃ u, r = .returned u ∧ SeenW w F (twoL a b) u w' ∧ (twoL a b).length ≤ a.length + b.length := by
  obtain ⟨pa, cpa, rfl, _, _, _, _⟩ := ha.form
  obtain ⟨pb, cpb, rfl, _, _, _, _⟩ := hb.form
  have HA := Lib.hid ha
  have HB := Lib.hid hb
  have HS := Lib.hid (And.intro hsa hsb)
  clear ha hb hsa hsb
  go_enter Try.func21, Try.ntmps21
  go_wp2_with fail
  go_loopg [5, 6, 7] (a.length + b.length) (fun gg ov iv kv wr => ∃ (i k : Nat) (o : List Ent), i ≤ a.length ∧ k ≤ b.length ∧ gg = a.length + b.length - (i + k) ∧ iv = .int .i64 (i : Int) ∧ kv = .int .i64 (k : Int) ∧ o.length ≤ i + k ∧ TwoS a b i k o ∧ SeenW w F o ov wr)
  case atStart => exact ⟨0, 0, [], by omega, by omega, by omega, rfl, rfl, by simp, .zero _ _, [], rfl, World.ownsRow_nil _ _ _ _, (fun j e u h => by simp at h), Below.refl _ _⟩
  case round =>
    obtain ⟨i, k, o, hi, hk, hgg, rfl, rfl, hol, hT, hsw⟩ := hrel
    subst hgg
    have HSw := Lib.hid hsw
    obtain ⟨us, hus, hrow, hvals, hbw⟩ := hsw
    obtain ⟨po, co, rfl, _, _⟩ := row_shape hrow
    have HT := Lib.hid hT
    have HUs := Lib.hid hus
    have HVals := Lib.hid hvals
    have HLo : Hid (o.length + 1 ≤ 68719476736) := Lib.hid (by omega)
    have HOa : Hid (∀ V, Below wr.heap.size wr V → ∀ (x : Ent) (q : Option Addr) (c : Nat), (V.alloc (.cells #[.string ⟨x.key.toArray⟩, .int .u64 (x.seq : Int), .bool x.gone, .slice q x.val.length c] 33)).ownsRow w.heap.size 33 4 (.slice po o.length co) o.length (cellsE o us)) :=
      Lib.hid fun V hV x q c => row_keep hrow fun k hk => (alloc_old (Nat.lt_of_lt_of_le (row_lt hrow k hk) hV.size) _).trans (hV.block k (row_lt hrow k hk))
    have HCa : Hid (∀ V, Below wr.heap.size wr V → ∀ (x : Ent) (q : Option Addr) (c : Nat), Cl (V.alloc (.cells #[.string ⟨x.key.toArray⟩, .int .u64 (x.seq : Int), .bool x.gone, .slice q x.val.length c] 33)) (fun k => k = V.heap.size) (.slice (some ⟨V.heap.size, 0, none⟩) 1 1) 1 (cellsE [x] [.slice q x.val.length c])) :=
      Lib.hid fun V _ x q c => Cl.new V (fun k => k = V.heap.size) 1 _ #[.string ⟨x.key.toArray⟩, .int .u64 (x.seq : Int), .bool x.gone, .slice q x.val.length c] 33 rfl (by omega) rfl
    have HBa : Hid (∀ V, Below wr.heap.size wr V → ∀ (x : Ent) (q : Option Addr) (c : Nat), Below w.heap.size w (V.alloc (.cells #[.string ⟨x.key.toArray⟩, .int .u64 (x.seq : Int), .bool x.gone, .slice q x.val.length c] 33))) :=
      Lib.hid fun V hV x q c => (hbw.trans (hV.mono hbw.size)).alloc (Nat.le_trans hbw.size hV.size) _
    have HOne : Hid (∀ (x : Ent) (q : Option Addr) (c : Nat), ∀ v ∈ cellsE [x] [.slice q x.val.length c], v.oneCell' = true) := Lib.hid fun x q c => cellsE_one _ _ (by simp [Value.oneCell'])
    have HR0 : Hid (Below wr.heap.size wr wr) := Lib.hid (Below.refl _ _)
    have HBn : Hid (Below wr.heap.size wr wr.drew) := Lib.hid (below_drew (Below.refl _ _))
    have HBw := Lib.hid hbw
    clear hrow hus hvals hbw hT
    by_cases hia : i < a.length
    · obtain ⟨ga, oa, qa, ca, rfl, hga, _, hVa, a0', a1', a2', a3'⟩ := HA.out.at_ (List.getElem?_eq_getElem hia)
      have HVa := Lib.hid hVa
      have a0 := (below_cells HBw.out ga _ hga).trans a0'
      have a1 := (below_cells HBw.out ga _ hga).trans a1'
      have a2 := (below_cells HBw.out ga _ hga).trans a2'
      have a3 := (below_cells HBw.out ga _ hga).trans a3'
      have hga2 : ga < wr.heap.size := Nat.lt_of_lt_of_le hga HBw.out.size
      clear a0' a1' a2' a3' hVa
      by_cases hkb : k < b.length
      · obtain ⟨gb, ob, qb, cb, rfl, hgb, _, hVb, b0', b1', b2', b3'⟩ := HB.out.at_ (List.getElem?_eq_getElem hkb)
        have HVb := Lib.hid hVb
        have b0 := (below_cells HBw.out gb _ hgb).trans b0'
        have b1 := (below_cells HBw.out gb _ hgb).trans b1'
        have b2 := (below_cells HBw.out gb _ hgb).trans b2'
        have b3 := (below_cells HBw.out gb _ hgb).trans b3'
        have hgb2 : gb < wr.heap.size := Nat.lt_of_lt_of_le hgb HBw.out.size
        clear b0' b1' b2' b3' hVb
        have HStA : Hid (lessE a[i] b[k] = true → TwoS a b (i + 1) k (o ++ [a[i]])) := Lib.hid (fun h => HT.out.left HS.out.1 HS.out.2 hia (fun _ => h))
        have HStB : Hid (atE a[i] b[k] = true → TwoS a b (i + 1) (k + 1) (o ++ [a[i]])) := Lib.hid (fun h => HT.out.both HS.out.1 HS.out.2 hia hkb h)
        have HStC : Hid (lessE b[k] a[i] = true → TwoS a b i (k + 1) (o ++ [b[k]])) := Lib.hid (fun h => HT.out.right HS.out.1 HS.out.2 hkb (fun _ => h))
        generalize a[i] = x at *
        generalize b[k] = y at *
        have HE : Hid (∀ X, Below wr.heap.size wr X → (X.cell? ⟨ga, oa + i * 4, none⟩ = some (.string ⟨x.key.toArray⟩) ∧ X.cell? ⟨ga, oa + i * 4 + 1, none⟩ = some (.int .u64 (x.seq : Int)) ∧ X.cell? ⟨ga, oa + i * 4 + 2, none⟩ = some (.bool x.gone) ∧ X.cell? ⟨ga, oa + i * 4 + 3, none⟩ = some (.slice qa x.val.length ca)) ∧
            (X.cell? ⟨gb, ob + k * 4, none⟩ = some (.string ⟨y.key.toArray⟩) ∧ X.cell? ⟨gb, ob + k * 4 + 1, none⟩ = some (.int .u64 (y.seq : Int)) ∧ X.cell? ⟨gb, ob + k * 4 + 2, none⟩ = some (.bool y.gone) ∧ X.cell? ⟨gb, ob + k * 4 + 3, none⟩ = some (.slice qb y.val.length cb))) := Lib.hid (fun X hX =>
          ⟨⟨(below_cells hX ga _ hga2).trans a0, (below_cells hX ga _ hga2).trans a1, (below_cells hX ga _ hga2).trans a2, (below_cells hX ga _ hga2).trans a3⟩, ⟨(below_cells hX gb _ hgb2).trans b0, (below_cells hX gb _ hgb2).trans b1, (below_cells hX gb _ hgb2).trans b2, (below_cells hX gb _ hgb2).trans b3⟩⟩)
        have HC : Hid (∀ X, Calls Try.prog 17 #[.agg #[.string ⟨x.key.toArray⟩, .int .u64 (x.seq : Int), .bool x.gone, .slice qa x.val.length ca], .agg #[.string ⟨y.key.toArray⟩, .int .u64 (y.seq : Int), .bool y.gone, .slice qb y.val.length cb]] X
            fun e w' => e = .returned (.int .i64 (cmpE x y)) ∧ Below X.heap.size X w') := Lib.hid (fun X => r6_compare X x y qa qb _ _ ca cb)
        have hways : (lessE x y = true ∧ cmpE x y = -1) ∨ (atE x y = true ∧ cmpE x y = 0) ∨ (lessE y x = true ∧ cmpE x y = 1) := by
          unfold cmpE
          rcases h1 : lessE x y with _ | _
          · rcases h2 : atE x y with _ | _
            · exact .inr (.inr ⟨lessE_total h1 h2, by simp⟩)
            · exact .inr (.inl ⟨rfl, by simp⟩)
          · exact .inl ⟨rfl, by simp⟩
        clear a0 a1 a2 a3 b0 b1 b2 b3
        rcases hways with ⟨hl1, hc⟩ | ⟨hl1, hc⟩ | ⟨hl1, hc⟩
        · rw [hc] at HC
          have HSt := Lib.hid (HStA.out hl1)
          clear hl1 hc HStA HStB HStC
          go_upto_region 10 with (fail)
          go_region_held3 (fun X => (X.cell? ⟨ga, oa + i * 4, none⟩ = some (.string ⟨x.key.toArray⟩) ∧ X.cell? ⟨ga, oa + i * 4 + 1, none⟩ = some (.int .u64 (x.seq : Int)) ∧ X.cell? ⟨ga, oa + i * 4 + 2, none⟩ = some (.bool x.gone) ∧ X.cell? ⟨ga, oa + i * 4 + 3, none⟩ = some (.slice qa x.val.length ca)) ∧
              (X.cell? ⟨gb, ob + k * 4, none⟩ = some (.string ⟨y.key.toArray⟩) ∧ X.cell? ⟨gb, ob + k * 4 + 1, none⟩ = some (.int .u64 (y.seq : Int)) ∧ X.cell? ⟨gb, ob + k * 4 + 2, none⟩ = some (.bool y.gone) ∧ X.cell? ⟨gb, ob + k * 4 + 3, none⟩ = some (.slice qb y.val.length cb)))
            (exact HE.out _ HBn.out)
            (first
              | (go_at_call 17
                 refine (HC.out _).mono ?_
                 rintro r wz ⟨rfl, hbz⟩
                 have HBn' := Lib.hid (HBn.out.trans (hbz.mono HBn.out.size))
                 clear hbz HBn
                 have HBn := HBn'
                 clear HBn'
                 obtain ⟨⟨a0, a1, a2, a3⟩, ⟨b0, b1, b2, b3⟩⟩ := HE.out wz HBn.out))
          go_wp2_with (at_builtin
                       refine slEnt.wpList_append rfl (.tmp 38) (.tmp 43) rfl w.heap.size (v := .slice po o.length co) (u := .slice (some ⟨wz.heap.size, 0, none⟩) 1 1) rfl rfl (HOa.out wz HBn.out x qa ca) (HCa.out wz HBn.out x qa ca) rfl (HOne.out x qa ca) HLo.out (HBa.out wz HBn.out x qa ca).size ?_
                       intro y3 w3 ho3 hg3 ha3
                       have HSn : Hid (SeenW w F (o ++ [x]) y3 w3) := Lib.hid (SeenW.snoc HUs.out HVals.out ho3 ((HBa.out wz HBn.out x qa ca).grown (by exact hg3) (HBa.out wz HBn.out x qa ca).size (row_low (HOa.out wz HBn.out x qa ca))) HVa.out)
                       clear ho3 hg3 ha3)
          go_roundg (a.length + b.length - ((i + 1) + k))
          case measure => omega
          case rel => exact ⟨(i + 1), k, o ++ [x], by omega, by omega, by omega, by go_num, rfl, by simp; omega, HSt.out, HSn.out⟩
        · rw [hc] at HC
          have HSt := Lib.hid (HStB.out hl1)
          clear hl1 hc HStA HStB HStC
          go_upto_region 10 with (fail)
          go_region_held3 (fun X => (X.cell? ⟨ga, oa + i * 4, none⟩ = some (.string ⟨x.key.toArray⟩) ∧ X.cell? ⟨ga, oa + i * 4 + 1, none⟩ = some (.int .u64 (x.seq : Int)) ∧ X.cell? ⟨ga, oa + i * 4 + 2, none⟩ = some (.bool x.gone) ∧ X.cell? ⟨ga, oa + i * 4 + 3, none⟩ = some (.slice qa x.val.length ca)) ∧
              (X.cell? ⟨gb, ob + k * 4, none⟩ = some (.string ⟨y.key.toArray⟩) ∧ X.cell? ⟨gb, ob + k * 4 + 1, none⟩ = some (.int .u64 (y.seq : Int)) ∧ X.cell? ⟨gb, ob + k * 4 + 2, none⟩ = some (.bool y.gone) ∧ X.cell? ⟨gb, ob + k * 4 + 3, none⟩ = some (.slice qb y.val.length cb)))
            (exact HE.out _ HBn.out)
            (first
              | (go_at_call 17
                 refine (HC.out _).mono ?_
                 rintro r wz ⟨rfl, hbz⟩
                 have HBn' := Lib.hid (HBn.out.trans (hbz.mono HBn.out.size))
                 clear hbz HBn
                 have HBn := HBn'
                 clear HBn'
                 obtain ⟨⟨a0, a1, a2, a3⟩, ⟨b0, b1, b2, b3⟩⟩ := HE.out wz HBn.out))
          go_wp2_with (at_builtin
                       refine slEnt.wpList_append rfl (.tmp 38) (.tmp 43) rfl w.heap.size (v := .slice po o.length co) (u := .slice (some ⟨wz.heap.size, 0, none⟩) 1 1) rfl rfl (HOa.out wz HBn.out x qa ca) (HCa.out wz HBn.out x qa ca) rfl (HOne.out x qa ca) HLo.out (HBa.out wz HBn.out x qa ca).size ?_
                       intro y3 w3 ho3 hg3 ha3
                       have HSn : Hid (SeenW w F (o ++ [x]) y3 w3) := Lib.hid (SeenW.snoc HUs.out HVals.out ho3 ((HBa.out wz HBn.out x qa ca).grown (by exact hg3) (HBa.out wz HBn.out x qa ca).size (row_low (HOa.out wz HBn.out x qa ca))) HVa.out)
                       clear ho3 hg3 ha3)
          go_roundg (a.length + b.length - ((i + 1) + (k + 1)))
          case measure => omega
          case rel => exact ⟨(i + 1), (k + 1), o ++ [x], by omega, by omega, by omega, by go_num, by go_num, by simp; omega, HSt.out, HSn.out⟩
        · rw [hc] at HC
          have HSt := Lib.hid (HStC.out hl1)
          clear hl1 hc HStA HStB HStC
          go_upto_region 10 with (fail)
          go_region_held3 (fun X => (X.cell? ⟨ga, oa + i * 4, none⟩ = some (.string ⟨x.key.toArray⟩) ∧ X.cell? ⟨ga, oa + i * 4 + 1, none⟩ = some (.int .u64 (x.seq : Int)) ∧ X.cell? ⟨ga, oa + i * 4 + 2, none⟩ = some (.bool x.gone) ∧ X.cell? ⟨ga, oa + i * 4 + 3, none⟩ = some (.slice qa x.val.length ca)) ∧
              (X.cell? ⟨gb, ob + k * 4, none⟩ = some (.string ⟨y.key.toArray⟩) ∧ X.cell? ⟨gb, ob + k * 4 + 1, none⟩ = some (.int .u64 (y.seq : Int)) ∧ X.cell? ⟨gb, ob + k * 4 + 2, none⟩ = some (.bool y.gone) ∧ X.cell? ⟨gb, ob + k * 4 + 3, none⟩ = some (.slice qb y.val.length cb)))
            (exact HE.out _ HBn.out)
            (first
              | (go_at_call 17
                 refine (HC.out _).mono ?_
                 rintro r wz ⟨rfl, hbz⟩
                 have HBn' := Lib.hid (HBn.out.trans (hbz.mono HBn.out.size))
                 clear hbz HBn
                 have HBn := HBn'
                 clear HBn'
                 obtain ⟨⟨a0, a1, a2, a3⟩, ⟨b0, b1, b2, b3⟩⟩ := HE.out wz HBn.out))
          go_wp2_with (at_builtin
                       refine slEnt.wpList_append rfl (.tmp 51) (.tmp 56) rfl w.heap.size (v := .slice po o.length co) (u := .slice (some ⟨wz.heap.size, 0, none⟩) 1 1) rfl rfl (HOa.out wz HBn.out y qb cb) (HCa.out wz HBn.out y qb cb) rfl (HOne.out y qb cb) HLo.out (HBa.out wz HBn.out y qb cb).size ?_
                       intro y3 w3 ho3 hg3 ha3
                       have HSn : Hid (SeenW w F (o ++ [y]) y3 w3) := Lib.hid (SeenW.snoc HUs.out HVals.out ho3 ((HBa.out wz HBn.out y qb cb).grown (by exact hg3) (HBa.out wz HBn.out y qb cb).size (row_low (HOa.out wz HBn.out y qb cb))) HVb.out)
                       clear ho3 hg3 ha3)
          go_roundg (a.length + b.length - (i + (k + 1)))
          case measure => omega
          case rel => exact ⟨i, (k + 1), o ++ [y], by omega, by omega, by omega, rfl, by go_num, by simp; omega, HSt.out, HSn.out⟩
      · have hkb2 : k = b.length := by omega
        subst hkb2
        have HSt := Lib.hid (HT.out.left HS.out.1 HS.out.2 hia (fun h => absurd h (Nat.lt_irrefl _)))
        generalize a[i] = x at *
        go_wp2_with (at_builtin
                     refine slEnt.wpList_append rfl (.tmp 38) (.tmp 43) rfl w.heap.size (v := .slice po o.length co) (u := .slice (some ⟨wr.heap.size, 0, none⟩) 1 1) rfl rfl (HOa.out wr HR0.out x qa ca) (HCa.out wr HR0.out x qa ca) rfl (HOne.out x qa ca) HLo.out (HBa.out wr HR0.out x qa ca).size ?_
                     intro y3 w3 ho3 hg3 ha3
                     have HSn : Hid (SeenW w F (o ++ [x]) y3 w3) := Lib.hid (SeenW.snoc HUs.out HVals.out ho3 ((HBa.out wr HR0.out x qa ca).grown (by exact hg3) (HBa.out wr HR0.out x qa ca).size (row_low (HOa.out wr HR0.out x qa ca))) HVa.out)
                     clear ho3 hg3 ha3)
        go_roundg (a.length + b.length - ((i + 1) + b.length))
        case measure => omega
        case rel => exact ⟨(i + 1), b.length, o ++ [x], by omega, by omega, by omega, by go_num, rfl, by simp; omega, HSt.out, HSn.out⟩
    · have hia2 : i = a.length := by omega
      subst hia2
      by_cases hkb : k < b.length
      · obtain ⟨gb, ob, qb, cb, rfl, hgb, _, hVb, b0', b1', b2', b3'⟩ := HB.out.at_ (List.getElem?_eq_getElem hkb)
        have HVb := Lib.hid hVb
        have b0 := (below_cells HBw.out gb _ hgb).trans b0'
        have b1 := (below_cells HBw.out gb _ hgb).trans b1'
        have b2 := (below_cells HBw.out gb _ hgb).trans b2'
        have b3 := (below_cells HBw.out gb _ hgb).trans b3'
        clear b0' b1' b2' b3' hVb
        have HSt := Lib.hid (HT.out.right HS.out.1 HS.out.2 hkb (fun h => absurd h (Nat.lt_irrefl _)))
        generalize b[k] = y at *
        go_wp2_with (at_builtin
                     refine slEnt.wpList_append rfl (.tmp 51) (.tmp 56) rfl w.heap.size (v := .slice po o.length co) (u := .slice (some ⟨wr.heap.size, 0, none⟩) 1 1) rfl rfl (HOa.out wr HR0.out y qb cb) (HCa.out wr HR0.out y qb cb) rfl (HOne.out y qb cb) HLo.out (HBa.out wr HR0.out y qb cb).size ?_
                     intro y3 w3 ho3 hg3 ha3
                     have HSn : Hid (SeenW w F (o ++ [y]) y3 w3) := Lib.hid (SeenW.snoc HUs.out HVals.out ho3 ((HBa.out wr HR0.out y qb cb).grown (by exact hg3) (HBa.out wr HR0.out y qb cb).size (row_low (HOa.out wr HR0.out y qb cb))) HVb.out)
                     clear ho3 hg3 ha3)
        go_roundg (a.length + b.length - (a.length + (k + 1)))
        case measure => omega
        case rel => exact ⟨a.length, (k + 1), o ++ [y], by omega, by omega, by omega, rfl, by go_num, by simp; omega, HSt.out, HSn.out⟩
      · have hkb2 : k = b.length := by omega
        subst hkb2
        go_wp2_with fail
        go_ret
        exact ⟨_, rfl, by rw [← HT.out.all HS.out.1 HS.out.2]; exact HSw.out, by rw [← HT.out.all HS.out.1 HS.out.2]; exact hol⟩
end Go.Proofs.Yteclnnjijfbfoaa
