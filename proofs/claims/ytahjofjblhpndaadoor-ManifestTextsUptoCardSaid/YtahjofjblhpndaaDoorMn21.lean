/- Walks of package digest: Read -/
import Derived.Test.YtahjofjblhpndaaDoorMn13
import Derived.Test.YtahjofjblhpndaaDoorMn20
import Derived.Laws.CopyOwn
set_option linter.unusedSimpArgs false
set_option linter.unusedVariables false
namespace Go.Proofs.YtahjofjblhpndaaDoor
set_option linter.unusedVariables false
open Go.RowKit Go.Lib

/-- a whole array of bytes, copied over -/
theorem wpList_copy_yw {w : World} {ops : Array Oper} {rest : List Oper} {o : Oper} {a : Act} {Q : Exit → Act → World → Prop} (hgd : o.guard = none) (d s : Operand)
    (ho : o.op = .call { callee := .builtin .copy, args := #[d, s], argTypes := #[23, 23] }) (g : Nat) (T : TypeId) (l : List Int) (dCap : Nat) (ad : Addr) (sCap : Nat) (ys : List Int)
    (hd : a.eval d = .slice (some ⟨g, 0, none⟩) 32 dCap) (hs : a.eval s = .slice (some ad) 32 sCap) (hY : Yw w g T l) (hl : l.length = 32) (hbs : Bs w (some ad) 32 ys)
    (h : wpList Tryd.prog ops Q rest (a.put o.dst (goInt 32)) (w.setRow g (bcs ys))) : wpList Tryd.prog ops Q (o :: rest) a w := by
  obtain ⟨h1, h2, h3⟩ := hbs
  rcases h3 with h3 | ⟨c, co, hp, hc⟩
  · omega
  · simp only [Option.some.injEq] at hp
    subst hp
    have hlm : (ys.map (Value.int .u8)).length = 32 := by rw [List.length_map, h1]
    refine wpList_copy_own hgd d s 23 23 ho 5 Tryd.underlying23 size8 g 0 32 dCap ⟨c, co, none⟩ 32 sCap hd hs (bcs l) T hY (ys.map (Value.int .u8)) hlm ?_ ?_ ?_ ?_
    · intro j u hj
      have hjm : j < 32 := by have := (List.getElem?_eq_some_iff.1 hj).1; omega
      rw [WideShapes.add_plain, hc j hjm, List.getD_eq_getElem?_getD]
      rw [List.getElem?_map] at hj
      rw [List.getElem?_eq_getElem (by omega)] at hj ⊢
      simpa using hj
    · rw [hlm, bcs_size, hl]; omega
    · intro u hu
      obtain ⟨z, _, rfl⟩ := List.mem_map.1 hu
      rfl
    · have e : ((bcs l).toList.take 0 ++ (ys.map (Value.int .u8) ++ (bcs l).toList.drop (0 + (ys.map (Value.int .u8)).length))).toArray = bcs ys := by
        rw [hlm, List.drop_of_length_le (by rw [Array.length_toList, bcs_size, hl]; omega)]
        simp [bcs]
      rw [e, hlm]
      exact h

theorem drd_noPre {cs : List Int} (h : ¬ (7 ≤ cs.length ∧ cs.take 7 = shaPre)) : drd cs = none := by
  rw [drd, if_neg]
  intro hh
  exact h ⟨by omega, hh.2⟩
theorem drd_noHex {cs : List Int} (h : hrd (cs.drop 7) = none) : drd cs = none := by
  rw [drd]
  split
  · exact h
  · rfl
theorem hrd_twice {cs ys : List Int} (h : hrd cs = some ys) : cs.length = 2 * ys.length := by
  have := hexs_hrd h
  rw [← this, hexs_length]
theorem drd_noLen {cs ys : List Int} (h : hrd (cs.drop 7) = some ys) (hl : ys.length ≠ 32) : drd cs = none := by
  rw [drd, if_neg]
  intro hh
  have := hrd_twice h
  rw [List.length_drop, hh.1] at this
  omega
theorem drd_yes {cs ys : List Int} (h7 : 7 ≤ cs.length) (hp : cs.take 7 = shaPre) (h : hrd (cs.drop 7) = some ys) (hl : ys.length = 32) : drd cs = some ys := by
  have := hrd_twice h
  rw [List.length_drop] at this
  rw [drd, if_pos ⟨by omega, hp⟩, h]

set_option maxRecDepth 100000 in
theorem read_ok : ReadOk := by
  intro s w hs
  have HB0 : Hid (Below w.heap.size w (w.alloc (.cells (bcs dzero) 39))) := Lib.hid ((Below.refl _ _).alloc (Nat.le_refl _) _)
  have HV0 : Hid (Yw (w.alloc (.cells (bcs dzero) 39)) w.heap.size 39 dzero) := Lib.hid (heap_alloc_new _ _)
  have HSZ := Lib.hid dzero_size
  have HLN : Hid ((numsOf s).length = s.size) := Lib.hid (numsOf_length s)
  by_cases hp : 7 ≤ s.size ∧ (numsOf s).take 7 = shaPre
  · have HC : Hid (∀ W, Calls Tryd.prog 18 #[.string s, .string ⟨#[115, 104, 97, 50, 53, 54, 58]⟩] W fun e w' => e = .returned (.tuple #[.string (s.extract 7 s.size), .bool true]) ∧ w' = W) := Lib.hid fun W => cut_yes s W hp.1 hp.2
    have HP := Lib.hid hp
    have HT : Hid (numsOf (s.extract 7 s.size) = (numsOf s).drop 7) := Lib.hid (by rw [numsOf_extract, List.take_of_length_le (by rw [numsOf_length]; omega)])
    have hts : (s.extract 7 s.size).size ≤ 281474976710656 := by rw [ByteArray.size_extract]; omega
    clear hp
    generalize s.extract 7 s.size = t at *
    have HR : Hid (∀ W, Calls Tryd.prog 50 #[.string t] W _) := Lib.hid fun W => hread_any t W hts
    rw [HT.out] at HR
    clear hts hs
    go_enter Tryd.func41, Tryd.ntmps41
    go_wp2_with fail
    refine (HC.out _).mono ?_
    rintro e w0 ⟨rfl, rfl⟩
    go_wp2_with fail
    refine (HR.out _).mono ?_
    rintro e w1 ⟨hres, hb1⟩
    have HB1 : Hid (Below w.heap.size w w1) := Lib.hid (below_step HB0.out hb1)
    have HV1 : Hid (Yw w1 w.heap.size 39 dzero) := Lib.hid (HV0.out.later hb1)
    have HS1 : Hid (w.heap.size + 1 ≤ w1.heap.size) := Lib.hid (by have := hb1.size; simpa using this)
    clear hb1
    rcases hres with ⟨hn, rfl⟩ | ⟨ys, v, hys, rfl, hob⟩
    · have HA := Lib.hid (drd_none (drd_noHex hn))
      clear hn
      go_wp2_with (first
        | (refine wpList_build_is rfl 39 _ rfl (bcs dzero) ?_ ?_; kernel_rfl)
        | (refine wpList_store_row rfl 39 _ _ rfl w.heap.size _ rfl rfl 39 _ HV1.out HSZ.out rfl (bcs_one _) ?_))
      refine bodyPost_ret (Yw.results_tmp HV1.out.row rfl _ rfl _ Tryd.underlying39 rfl size32) rfl ⟨by rw [HA.out.1, HA.out.2]; rfl, below_setRow8 HB1.out _ _ (Nat.le_refl _)⟩
    · have HHY := Lib.hid hys
      have HOB : Hid (Ob w1 (w.heap.size + 1) 5 v ys) := Lib.hid (hob.mono (by simp))
      clear hob hys
      obtain ⟨p, c, rfl, hcap, hcm, hbs0, _⟩ := HOB.out.open
      have HBS0 := Lib.hid hbs0
      clear hbs0
      have HV2 : Hid (Yw (w1.alloc (.cells (bcs dzero) 39)) w.heap.size 39 dzero) := Lib.hid (HV1.out.later ((Below.refl _ _).alloc (Nat.le_refl _) _))
      have HW2 : Hid (Yw (w1.alloc (.cells (bcs dzero) 39)) w1.heap.size 39 dzero) := Lib.hid (heap_alloc_new _ _)
      have HB2 : Hid (Below w.heap.size w (w1.alloc (.cells (bcs dzero) 39))) := Lib.hid (HB1.out.alloc (by have := HS1.out; omega) _)
      by_cases h32 : ys.length = 32
      · have HA := Lib.hid (drd_some (drd_yes (by rw [HLN.out]; exact HP.out.1) HP.out.2 HHY.out h32))
        have HY := Lib.hid h32
        rw [h32] at HOB HBS0 ⊢
        obtain ⟨g, rfl⟩ := HOB.out.ptr (by omega)
        have HBS : Hid (Bs (w1.alloc (.cells (bcs dzero) 39)) (some ⟨g, 0, none⟩) 32 ys) := Lib.hid (HBS0.out.later ((Below.refl _ _).alloc (Nat.le_refl _) _))
        clear h32 HV1 HB1
        have HZ1 : Hid ((Tryd.prog.info? 39).map (·.size) = some (bcs ys).size) := Lib.hid (by rw [bcs_size, HY.out]; exact size32)
        have HZ2 : Hid ((bcs dzero).size = (bcs ys).size) := Lib.hid (by rw [bcs_size, bcs_size, HY.out]; rfl)
        have HV3 : Hid (Yw ((w1.alloc (.cells (bcs dzero) 39)).setRow w1.heap.size (bcs ys)) w.heap.size 39 dzero) := Lib.hid (HV2.out.keep (setRow_other _ _ _ _ (by have := HS1.out; omega)))
        have HW3 : Hid (Yw ((w1.alloc (.cells (bcs dzero) 39)).setRow w1.heap.size (bcs ys)) w1.heap.size 39 ys) := Lib.hid HW2.out.row
        have HB3 : Hid (Below w.heap.size w ((w1.alloc (.cells (bcs dzero) 39)).setRow w1.heap.size (bcs ys))) := Lib.hid (below_setRow8 HB2.out _ _ (by have := HS1.out; omega))
        go_wp2_with (first
          | (refine wpList_copy_yw rfl _ _ rfl w1.heap.size 39 dzero 32 ⟨g, 0, none⟩ c ys rfl rfl HW2.out rfl HBS.out ?_)
          | (refine wpList_load_row rfl 39 _ rfl w1.heap.size rfl 39 _ (0, 0) _ HW3.out Tryd.underlying39 rfl HZ1.out ?_)
          | (refine wpList_store_row rfl 39 _ _ rfl w.heap.size _ rfl rfl 39 _ HV3.out HZ1.out HZ2.out (bcs_one _) ?_))
        refine bodyPost_ret (Yw.results_tmp HV3.out.row rfl _ rfl _ Tryd.underlying39 rfl (by rw [HY.out]; exact size32)) rfl ⟨by rw [HA.out.1, HA.out.2]; rfl, below_setRow8 HB3.out _ _ (Nat.le_refl _)⟩
      · have HA := Lib.hid (drd_none (drd_noLen HHY.out h32))
        have hne : ((ys.length : Int) != 32) = true := by simp; omega
        clear HV1 HB1
        go_wp2_with (first
          | (refine wpList_build_is rfl 39 _ rfl (bcs dzero) ?_ ?_; kernel_rfl)
          | (refine wpList_store_row rfl 39 _ _ rfl w.heap.size _ rfl rfl 39 _ HV2.out HSZ.out rfl (bcs_one _) ?_))
        refine bodyPost_ret (Yw.results_tmp HV2.out.row rfl _ rfl _ Tryd.underlying39 rfl size32) rfl ⟨by rw [HA.out.1, HA.out.2]; rfl, below_setRow8 HB2.out _ _ (Nat.le_refl _)⟩
  · have HC : Hid (∀ W, Calls Tryd.prog 18 #[.string s, .string ⟨#[115, 104, 97, 50, 53, 54, 58]⟩] W fun e w' => e = .returned (.tuple #[.string s, .bool false]) ∧ w' = W) := Lib.hid fun W => cut_no s W hp
    have HA := Lib.hid (drd_none (drd_noPre (cs := numsOf s) (by rw [HLN.out]; exact hp)))
    clear hp hs
    go_enter Tryd.func41, Tryd.ntmps41
    go_wp2_with fail
    refine (HC.out _).mono ?_
    rintro e w0 ⟨rfl, rfl⟩
    go_wp2_with (first
      | (refine wpList_build_is rfl 39 _ rfl (bcs dzero) ?_ ?_; kernel_rfl)
      | (refine wpList_store_row rfl 39 _ _ rfl w.heap.size _ rfl rfl 39 _ HV0.out HSZ.out rfl (bcs_one _) ?_))
    refine bodyPost_ret (Yw.results_tmp HV0.out.row rfl _ rfl _ Tryd.underlying39 rfl size32) rfl ⟨by rw [HA.out.1, HA.out.2]; rfl, below_setRow8 HB0.out _ _ (Nat.le_refl _)⟩
end Go.Proofs.YtahjofjblhpndaaDoor
