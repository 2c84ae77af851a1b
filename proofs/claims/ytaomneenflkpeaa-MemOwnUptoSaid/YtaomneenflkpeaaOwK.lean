/-
  A smaller bundle of the table's contracts (without heights and rows), and the walk over glacierlaw5.known by it: for seats that hold no more.
-/
import Derived.Test.YtaomneenflkpeaaSkV
import Derived.Test.YtaomneenflkpeaaMemW
import Derived.Lib.SlBytesConst
namespace Go.Proofs.Ytaomneenflkpeaa
open Go.RowKit Go.Shelf

structure MemK (M : World → (Nat → Prop) → Nat → PTb → Prop) : Prop where
  wf : ∀ {w S mb T}, M w S mb T → WfT T
  step : ∀ {w w' : World} {S S' R : Nat → Prop} {mb T}, M w S mb T → Fr R w w' → (∀ k, k < w.heap.size → S k → ¬ R k) → (∀ k, k < w.heap.size → S k → S' k) → M w' S' mb T
  new : ∀ (w : World) (F : Nat → Prop) (v : Value) (draws : List Int), Cl w F v draws.length (ints draws) → draws.length ≤ 1048576 → (∀ d ∈ draws, -9223372036854775808 ≤ d ∧ d ≤ 9223372036854775807) →
    Calls Try.prog 8 #[v] w fun r w' => ∃ mb, r = .returned (.pointer (some ⟨mb, 0, none⟩)) ∧ M w' (fun k => w.heap.size ≤ k) mb ⟨draws, [], [], 0⟩ ∧ Below w.heap.size w w'
  put : ∀ (w : World) (S F : Nat → Prop) (mb : Nat) (T : PTb), M w S mb T → T.L.length ≤ 1048575 → T.came ≤ 1048575 → ∀ (e : Ent), FitE e → ∀ (q : Option Addr) (c : Nat), By w F (.slice q e.val.length c) e.val →
    Calls Try.prog 10 #[.pointer (some ⟨mb, 0, none⟩), .agg #[.string ⟨e.key.toArray⟩, .int .u64 (e.seq : Int), .bool e.gone, .slice q e.val.length c]] w
      fun r w' => r = .returned (.tuple #[]) ∧ M w' (More S w.heap.size) mb (putT T (normE e)) ∧ Fr S w w'
  get : ∀ (w : World) (S : Nat → Prop) (mb : Nat) (T : PTb), M w S mb T → T.L.length ≤ 1048576 → ∀ (s : List UInt8) (up : Nat), s.length ≤ 1099511627776 → up < 18446744073709551616 →
    Calls Try.prog 13 #[.pointer (some ⟨mb, 0, none⟩), .string ⟨s.toArray⟩, .int .u64 (up : Int)] w fun r w' => ∃ q c, r = .returned (.tuple #[.agg #[.string ⟨(optE (newestE T.L s up)).key.toArray⟩, .int .u64 ((optE (newestE T.L s up)).seq : Int), .bool (optE (newestE T.L s up)).gone, .slice q (optE (newestE T.L s up)).val.length c], .bool (newestE T.L s up).isSome]) ∧
      OwnS (fun k => w.heap.size ≤ k) w' (.slice q (optE (newestE T.L s up)).val.length c) (optE (newestE T.L s up)).val ∧ Below w.heap.size w w'
  len : ∀ (w : World) (S : Nat → Prop) (mb : Nat) (T : PTb), M w S mb T → T.L.length ≤ 1048576 → Calls Try.prog 22 #[.pointer (some ⟨mb, 0, none⟩)] w fun r w' => r = .returned (.int .i64 (T.L.length : Int)) ∧ Below w.heap.size w w'
  size : ∀ (w : World) (S : Nat → Prop) (mb : Nat) (T : PTb), M w S mb T → T.L.length ≤ 1048576 → Calls Try.prog 23 #[.pointer (some ⟨mb, 0, none⟩)] w fun r w' => r = .returned (.int .i64 (sizeE T.L : Int)) ∧ Below w.heap.size w w'
section
variable {M : World → (Nat → Prop) → Nat → PTb → Prop} {w w' : World} {S S' : Nat → Prop} {mb : Nat} {T : PTb}
theorem MemK.after (H : MemK M) (h : M w S mb T) (hb : Below w.heap.size w w') : M w' S mb T := H.step h (Fr.of_new hb (fun _ => False)) (fun _ _ _ hf => hf) (fun _ _ hs => hs)
theorem MemK.mono (H : MemK M) (h : M w S mb T) (hS : ∀ k, k < w.heap.size → S k → S' k) : M w S' mb T := H.step h (Fr.refl (fun _ => False) w) (fun _ _ _ hf => hf) hS
end

theorem sk_memk : MemK Sk where
  wf := fun ⟨_, _, _, _, _, h, _, _⟩ => h.wf
  step := fun ⟨dv, hv, hh, ns, bk, h, h2, h3⟩ hf hd hS => ⟨dv, hv, hh, ns, bk, h.step hf hd hS, h2, h3⟩
  new := tb_new
  put := fun w S F mb T ⟨dv, hv, hh, ns, bk, h, hi, hd⟩ hL _ e he q c hby => (sk_tput w S F mb T dv hv hh ns bk h hi hd hL e he q c hby).mono (by
    rintro r w' ⟨rfl, ⟨hv', hh', ns', bk', h1, h2, _⟩, hf⟩
    refine ⟨rfl, ⟨dv, hv', hh', ns', bk', h1, h2, ?_⟩, hf⟩
    have e : (putT T (normE e)).draws = T.draws := by unfold putT; split <;> rfl
    rw [e]
    exact hd)
  get := fun w S mb T h _ s up _ _ => tb_get w S mb T h s up
  len := fun w S mb T h _ => tb_len w S mb T h
  size := fun w S mb T h _ => tb_size w S mb T h

def kn1 : Ent := ⟨[97], 1, false, [120]⟩
def kn2 : Ent := ⟨[97], 3, true, []⟩
def kn3 : Ent := ⟨[98], 2, false, [121]⟩
theorem kn_L : (tabP [3, 1] [kn1, kn2, kn3]).L = [kn2, kn1, kn3] := by kernel_rfl
theorem kn_size : sizeE [kn2, kn1, kn3] = 53 := by kernel_rfl
theorem kn_a2 : newestE [kn2, kn1, kn3] [97] 2 = some kn1 := by kernel_rfl
theorem kn_a9 : newestE [kn2, kn1, kn3] [97] 9 = some kn2 := by kernel_rfl
theorem kn_c9 : newestE [kn2, kn1, kn3] [99] 9 = none := by kernel_rfl
theorem one_by (w : World) (F : Nat → Prop) (b : UInt8) (hF : F w.heap.size) : By (w.alloc (.cells #[.int .u8 (b.toNat : Int)] 5 (1, 2))) F (.slice (some ⟨w.heap.size, 0, none⟩) 1 1) [b] := by
  refine ⟨_, _, rfl, Nat.le_refl _, by simp, by simp, (fun e => by cases e), fun j x hx => ⟨w.heap.size, 0, rfl, by simp, hF, ?_⟩⟩
  rw [Nat.zero_add]
  exact cell_of (heap_alloc_new w _) (by simpa [bs, bv] using hx)

set_option maxRecDepth 100000 in
set_option maxHeartbeats 1000000 in
theorem known_k {M : World → (Nat → Prop) → Nat → PTb → Prop} (H : MemK M) (w : World) : Calls Try.prog 6 #[] w fun r W' => r = .returned (.bool true) ∧ Below w.heap.size w W' := by
  have kc := fun (w : World) (C : Array Value) (n c : Nat) => Lib.run_convert_bytes_const (P := Try.prog) w 28 5 C n c Try.underlying28 Try.underlying5
  have HM := Lib.hid H
  have HNew := Lib.hid (H.new (w.alloc (.cells #[.int .i64 3, .int .i64 1] 3)) (fun _ => True) (.slice (some ⟨w.heap.size, 0, none⟩) 2 2) [3, 1] (Cl.new w _ 2 (ints [3, 1]) _ _ rfl (by omega) trivial) (by simp) (by simp))
  have HB0 : Hid (Below w.heap.size w (w.alloc (.cells #[.int .i64 3, .int .i64 1] 3))) := Lib.hid ((Below.refl _ _).alloc (Nat.le_refl _) _)
  clear H
  go_enter Try.func6, Try.ntmps6
  go_wp2_with fail
  refine HNew.out.mono ?_
  rintro r w2 ⟨mb, rfl, hm, hb2⟩
  have HB2 : Hid (Below w.heap.size w w2) := Lib.hid (HB0.out.trans (hb2.mono HB0.out.size))
  have HM2 : Hid (M w2 (fun k => w.heap.size ≤ k) mb (tabP [3, 1] [])) := Lib.hid (HM.out.mono hm fun k _ hk => Nat.le_trans HB0.out.size hk)
  clear hm hb2 HNew HB0
  have HBa : Hid (Below w.heap.size w (w2.alloc (.cells #[.int .u8 120] 5 (1, 2)))) := Lib.hid (HB2.out.alloc HB2.out.size _)
  have HPut := Lib.hid (HM.out.put (w2.alloc (.cells #[.int .u8 120] 5 (1, 2))) _ (fun _ => True) mb _ (HM.out.after HM2.out ((Below.refl _ _).alloc (Nat.le_refl _) _)) (by simp [tabP]) (by simp [tabP]) kn1 ⟨by decide, by decide, by decide⟩ _ _ (one_by w2 _ 120 trivial))
  rw [show (putT (tabP [3, 1] []) (normE kn1)) = tabP [3, 1] [kn1] from rfl] at HPut
  clear HM2 HB2
  go_wp2_with fail
  refine HPut.out.mono ?_
  rintro r w3 ⟨rfl, hm, hf⟩
  have HB3 : Hid (Below w.heap.size w w3) := Lib.hid (HBa.out.trans (hf.below HBa.out.size fun k hk hle => by omega))
  have HM3 : Hid (M w3 (fun k => w.heap.size ≤ k) mb (tabP [3, 1] [kn1])) := Lib.hid (HM.out.mono hm fun k _ hk => hk.elim id (fun hle => Nat.le_trans HBa.out.size hle))
  clear hm hf HPut HBa
  have HPut := Lib.hid (HM.out.put w3 _ (fun _ => True) mb _ HM3.out (by decide +kernel) (by decide +kernel) kn2 ⟨by decide, by decide, by decide⟩ none 0 (By.nil _ _))
  rw [show (putT (tabP [3, 1] [kn1]) (normE kn2)) = tabP [3, 1] [kn1, kn2] from rfl] at HPut
  clear HM3
  go_wp2_with fail
  refine HPut.out.mono ?_
  rintro r w4 ⟨rfl, hm, hf⟩
  have HB4 : Hid (Below w.heap.size w w4) := Lib.hid (HB3.out.trans (hf.below HB3.out.size fun k hk hle => by omega))
  have HM4 : Hid (M w4 (fun k => w.heap.size ≤ k) mb (tabP [3, 1] [kn1, kn2])) := Lib.hid (HM.out.mono hm fun k _ hk => hk.elim id (fun hle => Nat.le_trans HB3.out.size hle))
  clear hm hf HPut HB3
  have HBa : Hid (Below w.heap.size w (w4.alloc (.cells #[.int .u8 121] 5 (1, 2)))) := Lib.hid (HB4.out.alloc HB4.out.size _)
  have HPut := Lib.hid (HM.out.put (w4.alloc (.cells #[.int .u8 121] 5 (1, 2))) _ (fun _ => True) mb _ (HM.out.after HM4.out ((Below.refl _ _).alloc (Nat.le_refl _) _)) (by decide +kernel) (by decide +kernel) kn3 ⟨by decide, by decide, by decide⟩ _ _ (one_by w4 _ 121 trivial))
  rw [show (putT (tabP [3, 1] [kn1, kn2]) (normE kn3)) = tabP [3, 1] [kn1, kn2, kn3] from rfl] at HPut
  clear HM4 HB4
  go_wp2_with fail
  refine HPut.out.mono ?_
  rintro r w5 ⟨rfl, hm, hf⟩
  have HB5 : Hid (Below w.heap.size w w5) := Lib.hid (HBa.out.trans (hf.below HBa.out.size fun k hk hle => by omega))
  have HM5 : Hid (M w5 (fun k => w.heap.size ≤ k) mb (tabP [3, 1] [kn1, kn2, kn3])) := Lib.hid (HM.out.mono hm fun k _ hk => hk.elim id (fun hle => Nat.le_trans HBa.out.size hle))
  clear hm hf HPut HBa
  have HL := kn_L
  obtain ⟨T, hT⟩ : ∃ T, tabP [3, 1] [kn1, kn2, kn3] = T := ⟨_, rfl⟩
  rw [hT] at HM5 HL
  have HLn := Lib.hid (show T.L.length = 3 by rw [HL]; rfl)
  have HA2 := Lib.hid (show newestE T.L [97] 2 = some kn1 by rw [HL]; exact kn_a2)
  have HA9 := Lib.hid (show newestE T.L [97] 9 = some kn2 by rw [HL]; exact kn_a9)
  have HC9 := Lib.hid (show newestE T.L [99] 9 = none by rw [HL]; exact kn_c9)
  have HSz := Lib.hid (show sizeE T.L = 53 by rw [HL]; exact kn_size)
  clear HL hT
  have HGet : Hid (Calls Try.prog 13 #[.pointer (some ⟨mb, 0, none⟩), .string ⟨#[97]⟩, .int .u64 2] w5 fun r w' => ∃ q c, r = .returned (.tuple #[.agg #[.string ⟨#[97]⟩, .int .u64 1, .bool false, .slice q 1 c], .bool true]) ∧ By w' (fun _ => True) (.slice q 1 c) [120] ∧ Below w5.heap.size w5 w') := Lib.hid (by
    have h := HM.out.get w5 _ mb T HM5.out (by rw [HLn.out]; decide) [97] 2 (by decide) (by decide)
    rw [HA2.out] at h
    refine h.mono ?_
    rintro r w' ⟨q, c, rfl, ho, hb⟩
    exact ⟨q, c, rfl, (ho.by_ (by decide)).mono (fun _ _ _ => trivial), hb⟩)
  go_wp2_with fail
  refine HGet.out.mono ?_
  rintro r w6 ⟨q6, c6, rfl, ho6, hb6⟩
  have HBx : Hid (Below w6.heap.size w6 (w6.alloc (.cells #[.string ⟨#[97]⟩, .int .u64 1, .bool false, .slice q6 1 c6] 30))) := Lib.hid ((Below.refl _ _).alloc (Nat.le_refl _) _)
  have HXb : Hid ((w6.alloc (.cells #[.string ⟨#[97]⟩, .int .u64 1, .bool false, .slice q6 1 c6] 30)).heap[w6.heap.size]? = some (.cells #[.string ⟨#[97]⟩, .int .u64 1, .bool false, .slice q6 1 c6] 30 (0, 0))) := Lib.hid (heap_alloc_new w6 _)
  have HO6 := Lib.hid (ho6.below HBx.out)
  have HB6 : Hid (Below w.heap.size w (w6.alloc (.cells #[.string ⟨#[97]⟩, .int .u64 1, .bool false, .slice q6 1 c6] 30))) := Lib.hid ((HB5.out.trans (hb6.mono HB5.out.size)).trans (HBx.out.mono (Nat.le_trans HB5.out.size hb6.size)))
  have HM6 := Lib.hid (HM.out.after (HM.out.after HM5.out hb6) HBx.out)
  have HGet2 : Hid (Calls Try.prog 13 #[.pointer (some ⟨mb, 0, none⟩), .string ⟨#[97]⟩, .int .u64 9] (w6.alloc (.cells #[.string ⟨#[97]⟩, .int .u64 1, .bool false, .slice q6 1 c6] 30)) fun r w' => ∃ q c, r = .returned (.tuple #[.agg #[.string ⟨#[97]⟩, .int .u64 3, .bool true, .slice q 0 c], .bool true]) ∧ Below (w6.alloc (.cells #[.string ⟨#[97]⟩, .int .u64 1, .bool false, .slice q6 1 c6] 30)).heap.size (w6.alloc (.cells #[.string ⟨#[97]⟩, .int .u64 1, .bool false, .slice q6 1 c6] 30)) w') := Lib.hid (by
    have h := HM.out.get _ _ mb T HM6.out (by rw [HLn.out]; decide) [97] 9 (by decide) (by decide)
    rw [HA9.out] at h
    refine h.mono ?_
    rintro r w' ⟨q, c, rfl, ho, hb⟩
    exact ⟨q, c, rfl, hb⟩)
  clear hb6 ho6 HGet HM5 HB5 HBx
  go_wp2_with fail
  refine HGet2.out.mono ?_
  rintro r w7 ⟨q7, c7, rfl, hb7⟩
  have hx7 := (hb7.block w6.heap.size (block_lt HXb.out)).trans HXb.out
  have HX7 := Lib.hid hx7
  have HO7 := Lib.hid (HO6.out.below hb7)
  have HB7 := Lib.hid (HB6.out.trans (hb7.mono HB6.out.size))
  have HM7 := Lib.hid (HM.out.after HM6.out hb7)
  clear hb7 hx7 HM6 HB6 HO6 HXb HGet2
  have HBy : Hid (Below w7.heap.size w7 (w7.alloc (.cells #[.string ⟨#[97]⟩, .int .u64 3, .bool true, .slice q7 0 c7] 30))) := Lib.hid ((Below.refl _ _).alloc (Nat.le_refl _) _)
  have HYb : Hid ((w7.alloc (.cells #[.string ⟨#[97]⟩, .int .u64 3, .bool true, .slice q7 0 c7] 30)).heap[w7.heap.size]? = some (.cells #[.string ⟨#[97]⟩, .int .u64 3, .bool true, .slice q7 0 c7] 30 (0, 0))) := Lib.hid (heap_alloc_new w7 _)
  generalize hY : w7.alloc (.cells #[.string ⟨#[97]⟩, .int .u64 3, .bool true, .slice q7 0 c7] 30) = Y at HBy HYb
  have HGet3 : Hid (Calls Try.prog 13 #[.pointer (some ⟨mb, 0, none⟩), .string ⟨#[99]⟩, .int .u64 9] (w7.alloc (.cells #[.string ⟨#[97]⟩, .int .u64 3, .bool true, .slice q7 0 c7] 30)) fun r w' => ∃ q c, r = .returned (.tuple #[.agg #[.string ⟨#[]⟩, .int .u64 0, .bool false, .slice q 0 c], .bool false]) ∧ Below Y.heap.size Y w') := Lib.hid (by
    rw [hY]
    have h := HM.out.get _ _ mb T (HM.out.after HM7.out HBy.out) (by rw [HLn.out]; decide) [99] 9 (by decide) (by decide)
    rw [HC9.out] at h
    refine h.mono ?_
    rintro r w' ⟨q, c, rfl, ho, hb⟩
    exact ⟨q, c, rfl, hb⟩)
  clear hY
  go_wp2_with fail
  refine HGet3.out.mono ?_
  rintro r w8' ⟨q8, c8, rfl, hb8'⟩
  have hbz := (Below.refl w8'.heap.size w8').alloc (Nat.le_refl _) (.cells #[.string ⟨#[]⟩, .int .u64 0, .bool false, .slice q8 0 c8] 30)
  obtain ⟨w8, h8⟩ : ∃ w8, w8'.alloc (.cells #[.string ⟨#[]⟩, .int .u64 0, .bool false, .slice q8 0 c8] 30) = w8 := ⟨_, rfl⟩
  have hb8 : Below Y.heap.size Y w8 := by
    rw [← h8]
    exact hb8'.trans (hbz.mono hb8'.size)
  have H8 := Lib.hid h8
  clear hbz hb8' h8
  have hb78 := HBy.out.trans (hb8.mono HBy.out.size)
  have hx8 := (hb78.block w6.heap.size (block_lt HX7.out)).trans HX7.out
  have hy8 := (hb8.block w7.heap.size (block_lt HYb.out)).trans HYb.out
  have HB8 := Lib.hid (HB7.out.trans (hb78.mono HB7.out.size))
  have HM8 := Lib.hid (HM.out.after HM7.out hb78)
  have hst := txt_run (HO7.out.below hb78).rd
  have a1 := cell_of (i := 1) hx8 rfl
  have a3 := cell_of (i := 3) hx8 rfl
  have y2 := cell_of (i := 2) hy8 rfl
  have HLen := Lib.hid (HM.out.len w8 _ mb T HM8.out (by rw [HLn.out]; decide))
  rw [HLn.out] at HLen
  clear hb8 hb78 hx8 hy8 HX7 HO7 HB7 HM7 HYb HBy HGet3
  go_upto_region 10 with (fail)
  rw [H8.out]
  clear H8
  go_wp2_with fail
  refine HLen.out.mono ?_
  rintro r w9 ⟨rfl, hb9⟩
  have HM9 := Lib.hid (HM.out.after HM8.out hb9)
  have HB9 := Lib.hid (HB8.out.trans (hb9.mono HB8.out.size))
  have HSize := Lib.hid (HM.out.size w9 _ mb T HM9.out (by rw [HLn.out]; decide))
  rw [HSz.out] at HSize
  clear hb9 HM8 HB8 HLen hst a1 a3 y2
  go_wp2_with fail
  refine HSize.out.mono ?_
  rintro r w10 ⟨rfl, hb10⟩
  have HB10 := Lib.hid (HB9.out.trans (hb10.mono HB9.out.size))
  clear hb10
  go_wp2_with fail
  go_ret
  exact ⟨rfl, HB10.out⟩
end Go.Proofs.Ytaomneenflkpeaa
