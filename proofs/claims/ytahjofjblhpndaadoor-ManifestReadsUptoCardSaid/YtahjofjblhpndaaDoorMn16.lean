/- The reference of layer 17: Text; Layer 17, the laws: lives; what was read can be -/
import Derived.Test.YtahjofjblhpndaaDoorMn2
import Derived.Test.YtahjofjblhpndaaDoorMn3
import Derived.Test.YtahjofjblhpndaaDoorMn10
import Derived.Test.YtahjofjblhpndaaDoorMn15
import Derived.Lib.ConvBytes
set_option linter.unusedSimpArgs false
set_option linter.unusedVariables false
namespace Go.Proofs.YtahjofjblhpndaaDoor
set_option linter.unusedVariables false
open Go.RowKit Go.Lib

/-- '[]byte(s)' -/
theorem bytes_conv (w : World) (s : ByteArray) (hs : s.size ≤ maxLen) : (Go.convert 9 23 (.string s)).run Tryd.prog w = .ok (.slice (some ⟨w.heap.size, 0, none⟩) s.size (grownCap w s.size 0 5)) (Lib.bytesWorld w 5 s) ∧
    Bs (Lib.bytesWorld w 5 s) (some ⟨w.heap.size, 0, none⟩) s.size (numsOf s) ∧ s.size ≤ grownCap w s.size 0 5 ∧ grownCap w s.size 0 5 ≤ maxLen ∧ Below w.heap.size w (Lib.bytesWorld w 5 s) := by
  refine ⟨Lib.run_convert_string_bytes w 9 23 5 s Tryd.underlying9 Tryd.underlying23 Tryd.underlying5, ⟨numsOf_length s, numsOf_byte s, Or.inr ⟨_, 0, rfl, fun j hj => ?_⟩⟩, grownCap_ge _ _ _ _, grownCap_le_maxLen _ _ _ _ hs, ?_⟩
  · rw [Nat.zero_add, Lib.bytesWorld_cell w 5 s j hj, numsOf_getD s j hj]
    have h1 : j < s.data.toList.length := by simpa using hj
    rw [List.getD_eq_getElem?_getD, List.getElem?_eq_getElem h1]
    rfl
  · exact ⟨by simp [Lib.bytesWorld, World.freeze, World.alloc, World.drew, -World.alloc_eq, -World.drew_eq], by simp [Lib.bytesWorld, World.freeze, World.alloc, World.drew, -World.alloc_eq, -World.drew_eq], by simp [Lib.bytesWorld, World.freeze, World.alloc, World.drew, -World.alloc_eq, -World.drew_eq], by rw [Lib.bytesWorld_size]; omega, fun k hk => Lib.bytesWorld_at_old w 5 s k hk⟩
theorem lineN_length {r : Rf} (hd : dok r.dg) (hz : sizeOk r = true) : (lineN r).length ≤ 86 := by
  have hl : (dtext r.dg).length = 71 := by rw [dtext, List.length_append, hexs_length, hd.1]; rfl
  unfold lineN
  split
  · rw [List.length_append, hl]; decide
  · rename_i h
    unfold sizeOk at hz
    rw [show r.m = false by simpa using h, Bool.false_or] at hz
    obtain ⟨z0, z1⟩ := of_decide_eq_true hz
    have := dgs_length 8 r.z.toNat (by omega)
    rw [List.length_append, List.length_append, hl, List.length_cons]
    show 5 + (71 + ((dgs r.z.toNat).length + 1)) ≤ 86
    omega
theorem strOf_size (l : List Int) : (strOfNums l).size = l.length := by
  have h1 : (strOfNums l).data.toList.length = l.length := by rw [strOfNums_data, List.length_map]
  simpa using h1
theorem strOf_10 : strOfNums [10] = ⟨#[10]⟩ := by decide
theorem strOf_first : strOfNums (firstL ++ [10]) = ⟨#[115, 116, 105, 108, 108, 97, 103, 101, 32, 49, 10]⟩ := by decide
def txtN (l : List Rf) : List Int := firstL ++ (10 :: bodyN l)
theorem bodyN_append (a b : List Rf) : bodyN (a ++ b) = bodyN a ++ bodyN b := by simp [bodyN]
theorem txtN_step {l : List Rf} {k : Nat} {r : Rf} (hr : l[k]? = some r) : txtN (l.take (k + 1)) = txtN (l.take k) ++ (lineN r ++ [10]) := by
  obtain ⟨hk, he⟩ := List.getElem?_eq_some_iff.1 hr
  rw [List.take_succ_eq_append_getElem hk, he]
  unfold txtN
  rw [bodyN_append]
  simp [bodyN]
theorem byt_fin {l : List Int} (h : ∀ x ∈ l, 0 ≤ x ∧ x < 256) : ∀ j, 0 ≤ l.getD j 0 ∧ l.getD j 0 < 256 := fun j => by
  by_cases hj : j < l.length
  · rw [List.getD_eq_getElem?_getD, List.getElem?_eq_getElem hj]
    exact h _ (List.getElem_mem hj)
  · rw [List.getD_eq_getElem?_getD, List.getElem?_eq_none (by omega)]
    simp
theorem byt_mem {l : List Int} (h : ∀ j, 0 ≤ l.getD j 0 ∧ l.getD j 0 < 256) : ∀ x ∈ l, 0 ≤ x ∧ x < 256 := fun x hx => by
  obtain ⟨j, hj, rfl⟩ := List.mem_iff_getElem.1 hx
  have h1 := h j
  rw [List.getD_eq_getElem?_getD, List.getElem?_eq_getElem hj] at h1
  exact h1
theorem lineN_mem {r : Rf} (hd : dok r.dg) : ∀ x ∈ lineN r, 0 ≤ x ∧ x < 256 := fun x hx => by
  have hdt := byt_mem (dtext_byte hd)
  unfold lineN at hx
  split at hx
  · rcases List.mem_append.1 hx with h | h
    · exact (show ∀ x ∈ manPre, 0 ≤ x ∧ x < 256 by decide) x h
    · exact hdt x h
  · rcases List.mem_append.1 hx with h | h
    · exact (show ∀ x ∈ bloPre, 0 ≤ x ∧ x < 256 by decide) x h
    · rcases List.mem_append.1 h with h | h
      · exact hdt x h
      · rcases List.mem_cons.1 h with h | h
        · omega
        · have := dgs_fig _ _ h
          omega
theorem txtN_byte {l : List Rf} (h : ∀ r ∈ l, dok r.dg) : ∀ j, 0 ≤ (txtN l).getD j 0 ∧ (txtN l).getD j 0 < 256 := byt_fin fun x hx => by
  unfold txtN at hx
  rcases List.mem_append.1 hx with h1 | h1
  · have : ∀ x ∈ firstL, 0 ≤ x ∧ x < 256 := by decide
    exact this x h1
  · rcases List.mem_cons.1 h1 with h1 | h1
    · omega
    · unfold bodyN at h1
      rw [List.mem_flatMap] at h1
      obtain ⟨r, hr, h2⟩ := h1
      rcases List.mem_append.1 h2 with h3 | h3
      · exact lineN_mem (h r hr) x h3
      · rw [List.mem_singleton] at h3; omega
/-- a step of the look for what is wrong -/
theorem tGo_step {l : List Rf} {k : Nat} {r : Rf} (hr : l[k]? = some r) : tGo (l.take k) (l.drop k) = if sizeOk r = false then 20 else if twice (l.take k) r then 7 else tGo (l.take (k + 1)) (l.drop (k + 1)) := by
  obtain ⟨hk, he⟩ := List.getElem?_eq_some_iff.1 hr
  rw [List.drop_eq_getElem_cons hk, he]
  conv => lhs; unfold tGo
  rw [List.take_succ_eq_append_getElem hk, he]
  rfl
set_option maxRecDepth 100000 in
set_option maxHeartbeats 2000000 in
theorem rtext17_any (p : Option Addr) (n c : Nat) (L : List Fx) (w : World) (h : Gs encRf w p n L) (hpc : p = none → c = 0) (hk : ∀ x ∈ L, x.1.Ok) (hn : n ≤ 1048576) :
    Calls Tryd.prog 7 #[.slice p n c] w fun e w' => TxQ w (rfL L) e w' := by
  have H := Lib.hid h
  have HK := Lib.hid hk
  have HLN := Lib.hid (show (rfL L).length = n by rw [rfL_length, h.len])
  have HTE := Lib.hid (show tE (rfL L) = if (rfL L).length > 64 then 8 else tGo [] (rfL L) from rfl)
  have HTB := Lib.hid (show tE (rfL L) = 0 → tB (rfL L) = txtN (rfL L) from fun h0 => by unfold tB txtN; rw [if_pos h0])
  rw [HLN.out] at HTE
  have HAG := Lib.hid fun i (x : Fx) W (hW : Below w.heap.size w W) (hi : i < n) (hx : L[i]? = some x) => ragain17_any p n c L i x W (h.later hW) hk hi hx hn
  have HLI := Lib.hid fun (x : Rf) W (hx : x.Ok) (hs : sizeOk x = true) => rline17_any x W hx hs
  unfold Rf.v at HLI
  have HDK : Hid (∀ r ∈ rfL L, dok r.dg) := Lib.hid (fun r hr => by
    obtain ⟨x, hx, rfl⟩ := List.mem_map.1 hr
    exact (hk x hx).dg)
  clear h hk hpc
  by_cases h64 : n > 64
  · have hd : decide ((n : Int) > 64) = true := decide_eq_true (by omega)
    have hd' : decide ((64 : Int) < n) = true := decide_eq_true (by omega)
    have h64' : (64 : Int) < n := by omega
    rw [if_pos h64] at HTE
    go_enter Tryd.func7, Tryd.ntmps7
    go_wp2
    go_ret2
    exact TxQ.of (tE_no (by rw [HTE.out]; decide)) HTE.out none 0 0 (Bs.empty _ _) (Nat.le_refl _) (Nat.zero_le _) (fun _ => rfl) (Below.refl _ _)
  · have hd : decide ((n : Int) > 64) = false := decide_eq_false (by omega)
    have hd' : decide ((64 : Int) < n) = false := decide_eq_false (by omega)
    have h64' : ¬ (64 : Int) < n := by omega
    rw [if_neg h64] at HTE
    have HN64 : Hid (n ≤ 64) := Lib.hid (by omega)
    clear h64 hn
    go_enter Tryd.func7, Tryd.ntmps7
    go_wp2
    go_loopw [4, 5] (fun sv iv wr => ∃ (k : Nat) (t : ByteArray), k ≤ n ∧ sv = .string t ∧ iv = .int .i64 (k : Int) ∧ Hid (t = strOfNums (txtN ((rfL L).take k))) ∧ Hid (t.size ≤ 11 + k * 87) ∧ Hid (tE (rfL L) = tGo ((rfL L).take k) ((rfL L).drop k)) ∧ Hid (Below w.heap.size w wr)) (fun _ iv _ => n - (intOf iv).toNat)
    case atStart => exact ⟨0, ⟨#[115, 116, 105, 108, 108, 97, 103, 101, 32, 49, 10]⟩, by omega, rfl, rfl, Lib.hid (by rw [← strOf_first]; rfl), Lib.hid (by decide), HTE, Lib.hid (Below.refl _ _)⟩
    case round =>
      obtain ⟨k, t, hkn, rfl, rfl, HT, HTS, HE, HB⟩ := hrel
      by_cases hlt : k < n
      · have hds := H.out.later HB.out
        obtain ⟨b, off, x, rfl, hx1, hx2, hx3, hr⟩ := hds.rf k hlt
        obtain ⟨c0, _, c33⟩ := rf_cells hr
        have hki : (k : Int) < (n : Int) := by omega
        have hk0 : (0 : Int) ≤ (k : Int) := by omega
        have HXK := Lib.hid (HK.out x hx3)
        have HST := Lib.hid (tGo_step hx2)
        have HTN := Lib.hid (txtN_step hx2)
        rw [← HE.out] at HST
        have HKN := Lib.hid hlt
        have HX1 := Lib.hid hx1
        have HR := Lib.hid hr
        obtain ⟨m, hm⟩ : ∃ m, x.1.m = m := ⟨_, rfl⟩
        obtain ⟨z, hz⟩ : ∃ z, x.1.z = z := ⟨_, rfl⟩
        have HSO : Hid (sizeOk x.1 = (m || decide (0 ≤ z ∧ z ≤ 999999999))) := Lib.hid (by unfold sizeOk; rw [hm, hz])
        rw [hm] at c0
        rw [hz] at c33
        clear hds hx1 hx2 hx3 hr hm hz
        by_cases hok : sizeOk x.1 = true
        · skip
          have HLX := Lib.hid fun W => HLI.out x.1 W HXK.out hok
          have HSK := Lib.hid hok
          rw [if_neg (by rw [hok]; decide)] at HST
          have HLL : Hid ((strOfNums (lineN x.1)).size ≤ 86) := Lib.hid (by rw [strOf_size]; exact lineN_length HXK.out.dg hok)
          have HAX := Lib.hid fun W (hW : Below w.heap.size w W) => HAG.out k x W hW HKN.out HX1.out
          obtain ⟨tb, htb⟩ : ∃ b, twice ((rfL L).take k) x.1 = b := ⟨_, rfl⟩
          rw [htb] at HST HAX
          obtain ⟨S, hS⟩ : ∃ s, strOfNums (lineN x.1) = s := ⟨_, rfl⟩
          rw [hS] at HLX HLL
          have HNT : Hid (t ++ (S ++ ⟨#[10]⟩) = strOfNums (txtN ((rfL L).take (k + 1)))) := Lib.hid (by rw [HTN.out, strOf_append, strOf_append, hS, HT.out, strOf_10])
          have HNS : Hid ((t ++ (S ++ (⟨#[10]⟩ : ByteArray))).size ≤ 11 + (k + 1) * 87) := Lib.hid (by
            have h1 := HTS.out
            have h2 := HLL.out
            rw [ByteArray.size_append, ByteArray.size_append]
            have e2 : (⟨#[10]⟩ : ByteArray).size = 1 := rfl
            omega)
          have hs1 : ¬ 9223372036854775807 < S.size + 1 := by have := HLL.out; omega
          have hs2 : ¬ 9223372036854775807 < t.size + (S.size + 1) := by have h1 := HLL.out; have h2 := HTS.out; have h3 := HN64.out; omega
          have hs3 : ¬ 9223372036854775807 < t.size + (S ++ (⟨#[10]⟩ : ByteArray)).size := by
            rw [ByteArray.size_append]
            have e2 : (⟨#[10]⟩ : ByteArray).size = 1 := rfl
            rw [e2]
            exact hs2
          have HLD := Lib.hid fun W (hW : Below wr.heap.size wr W) => rf_load (rng_later HR.out hW)
          clear htb hS hok
          rw [HSK.out] at HSO
          cases m
          · have hzz : 0 ≤ z ∧ z ≤ 999999999 := of_decide_eq_true (by have h1 := HSO.out; rw [Bool.false_or] at h1; exact h1.symm)
            have z1 : decide (z < 0) = false := decide_eq_false (by omega)
            have z2 : decide (z > 999999999) = false := decide_eq_false (by omega)
            have z3 : decide (999999999 < z) = false := decide_eq_false (by omega)
            have z4 : ¬ z < 0 := by omega
            have z5 : ¬ 999999999 < z := by omega
            clear hzz
            cases tb
            · go_wp2_with (first
                | (refine wpList_ld rfl 41 _ rfl _ rfl _ (HLD.out _ HBR.out) ?_)
                | (go_at_call 16; refine (HAX.out _ HB.out).mono ?_; rintro e w2 ⟨rfl, hb2⟩; have HBR := Lib.hid hb2; have HB2 := Lib.hid (below_step HB.out hb2); clear hb2)
                | (go_at_call 17; refine (HLX.out _).mono ?_; rintro e w3 ⟨rfl, hb3⟩; have HB3 := Lib.hid (below_step HB2.out hb3); clear hb3))
              exact ⟨⟨k + 1, _, by omega, rfl, by go_num, HNT, HNS, Lib.hid (by rw [HST.out]; rfl), HB3⟩, by simp [intOf] <;> omega⟩
            · go_wp2_with (first
                | (go_at_call 16; refine (HAX.out _ HB.out).mono ?_; rintro e w2 ⟨rfl, hb2⟩; have HB2 := Lib.hid (below_step HB.out hb2); clear hb2))
              (try simp only [Exit.inBlock, Exit.then])
              go_ret2
              have HE7 : tE (rfL L) = 7 := HST.out
              exact TxQ.of (tE_no (by rw [HE7]; decide)) HE7 none 0 0 (Bs.empty _ _) (Nat.le_refl _) (Nat.zero_le _) (fun _ => rfl) HB2.out
          · skip
            cases tb
            · go_wp2_with (first
                | (refine wpList_ld rfl 41 _ rfl _ rfl _ (HLD.out _ HBR.out) ?_)
                | (go_at_call 16; refine (HAX.out _ HB.out).mono ?_; rintro e w2 ⟨rfl, hb2⟩; have HBR := Lib.hid hb2; have HB2 := Lib.hid (below_step HB.out hb2); clear hb2)
                | (go_at_call 17; refine (HLX.out _).mono ?_; rintro e w3 ⟨rfl, hb3⟩; have HB3 := Lib.hid (below_step HB2.out hb3); clear hb3))
              exact ⟨⟨k + 1, _, by omega, rfl, by go_num, HNT, HNS, Lib.hid (by rw [HST.out]; rfl), HB3⟩, by simp [intOf] <;> omega⟩
            · go_wp2_with (first
                | (go_at_call 16; refine (HAX.out _ HB.out).mono ?_; rintro e w2 ⟨rfl, hb2⟩; have HB2 := Lib.hid (below_step HB.out hb2); clear hb2))
              (try simp only [Exit.inBlock, Exit.then])
              go_ret2
              have HE7 : tE (rfL L) = 7 := HST.out
              exact TxQ.of (tE_no (by rw [HE7]; decide)) HE7 none 0 0 (Bs.empty _ _) (Nat.le_refl _) (Nat.zero_le _) (fun _ => rfl) HB2.out
        · skip
          have hno : sizeOk x.1 = false := by simpa using hok
          rw [hno] at HSO
          rw [if_pos hno] at HST
          have HE2 : Hid (tE (rfL L) = 20) := HST
          cases m
          · have hzz : ¬ (0 ≤ z ∧ z ≤ 999999999) := of_decide_eq_false (by have h1 := HSO.out; rw [Bool.false_or] at h1; exact h1.symm)
            clear hok hno
            by_cases z0 : z < 0
            · have z1 : decide (z < 0) = true := decide_eq_true z0
              clear hzz
              go_wp2
              (try simp only [Exit.inBlock, Exit.then])
              go_ret2
              exact TxQ.of (tE_no (by rw [HE2.out]; decide)) HE2.out none 0 0 (Bs.empty _ _) (Nat.le_refl _) (Nat.zero_le _) (fun _ => rfl) HB.out
            · have z5 : 999999999 < z := by omega
              have z1 : decide (z < 0) = false := decide_eq_false z0
              have z2 : decide (z > 999999999) = true := decide_eq_true z5
              have z3 : decide (999999999 < z) = true := decide_eq_true z5
              clear hzz
              go_wp2
              (try simp only [Exit.inBlock, Exit.then])
              go_ret2
              exact TxQ.of (tE_no (by rw [HE2.out]; decide)) HE2.out none 0 0 (Bs.empty _ _) (Nat.le_refl _) (Nat.zero_le _) (fun _ => rfl) HB.out
          · exact absurd HSO.out (by simp)
      · obtain rfl : k = n := by omega
        have HE0 : Hid (tE (rfL L) = 0) := Lib.hid (by rw [HE.out, List.drop_of_length_le (by rw [HLN.out]; omega)]; cases (rfL L).take k <;> rfl)
        have HTT : Hid (numsOf t = txtN (rfL L)) := Lib.hid (by rw [HT.out, numsOf_strOfNums (txtN_byte fun r hr => HDK.out r (List.mem_of_mem_take hr)), List.take_of_length_le (by rw [HLN.out]; omega)])
        have HSZ : Hid (t.size ≤ maxLen) := Lib.hid (by have h1 := HTS.out; have h2 := HN64.out; unfold maxLen; omega)
        have hki : ¬ (k : Int) < (k : Int) := by omega
        obtain ⟨hcv, hbs, hg1, hg2, hbb⟩ := bytes_conv wr t HSZ.out
        have HBS := Lib.hid hbs
        have HG1 := Lib.hid hg1
        have HG2 := Lib.hid hg2
        have HBB := Lib.hid (below_step HB.out hbb)
        generalize Lib.bytesWorld wr 5 t = w9 at *
        generalize grownCap wr t.size 0 5 = cp at *
        clear hbs hg1 hg2 hbb
        go_wp2
        go_ret2
        exact TxQ.of (by rw [HTB.out HE0.out]; exact HTT.out.symm) HE0.out _ _ _ HBS.out HG1.out HG2.out (fun h => by cases h) HBB.out
end Go.Proofs.YtahjofjblhpndaaDoor

namespace Go.Proofs.YtahjofjblhpndaaDoor
set_option linter.unusedVariables false
open Go.RowKit Go.Lib

theorem rdGo_in : ∀ (f : Nat) (zs : List Int) (st : Bool) (l : List Rf), ∀ r ∈ (rdGo f zs st l).l, r ∈ l ∨ (dok r.dg ∧ r.norm = r ∧ sizeOk r = true)
  | 0, _, _, _, r, hr => by cases hr
  | f + 1, zs, st, l, r, hr => by
    unfold rdGo at hr
    cases hc : cutL zs with
    | none =>
      rw [hc] at hr
      dsimp only at hr
      split at hr
      · exact Or.inl hr
      · cases hr
    | some p =>
      obtain ⟨a, b⟩ := p
      rw [hc] at hr
      dsimp only at hr
      split at hr
      · split at hr
        · rcases rdGo_in f _ _ _ r hr with h | h
          · cases h
          · exact Or.inr h
        · cases hr
      · cases hd : rdL a with
        | none => rw [hd] at hr; cases hr
        | some x =>
          rw [hd] at hr
          dsimp only at hr
          split at hr
          · cases hr
          · split at hr
            · cases hr
            · rcases rdGo_in f _ _ _ r hr with h | h
              · rcases List.mem_append.1 h with h | h
                · exact Or.inl h
                · rw [List.mem_singleton] at h
                  subst h
                  exact Or.inr ⟨(rdL_ok hd).1, (rdL_ok hd).2, (rdL_line hd).2⟩
              · exact Or.inr h
theorem rd_ok {zs : List Int} : ∀ r ∈ (rdF zs).l, r.Ok := fun r hr => by
  rcases rdGo_in _ _ _ _ r hr with h | ⟨h1, h2, h3⟩
  · cases h
  · refine ⟨h1, ?_⟩
    unfold Rf.norm at h2
    by_cases hm : r.m = true
    · rw [if_pos hm] at h2
      rw [← h2]
      show _ ≤ (0 : Int) ∧ (0 : Int) ≤ _
      omega
    · unfold sizeOk at h3
      rw [show r.m = false by simpa using hm, Bool.false_or] at h3
      have := of_decide_eq_true h3
      omega
def lvD : List Int := 1 :: List.replicate 31 0
theorem lvD_ok : dok lvD := ⟨rfl, byt_fin (by decide)⟩
def lvR : Rf := ⟨false, lvD, 30⟩
theorem lvR_ok : lvR.Ok := ⟨lvD_ok, by show _ ≤ (30 : Int) ∧ (30 : Int) ≤ _; omega⟩
theorem lv_tE : tE [lvR] = 0 := rfl
theorem lv_len : (tB [lvR]).length = 91 := by
  have hl : (dtext lvD).length = 71 := by rw [dtext, List.length_append, hexs_length, lvD_ok.1]; rfl
  have hd : (dgs 30).length = 2 := by rw [dgs_great (by decide), List.length_append, dgs_small (by decide)]; rfl
  unfold tB
  rw [if_pos lv_tE]
  have e : bodyN [lvR] = lineN lvR ++ [10] := by simp [bodyN]
  have e2 : lineN lvR = bloPre ++ (dtext lvD ++ 32 :: dgs 30) := rfl
  rw [e, e2, List.length_append, List.length_cons, List.length_append, List.length_append, List.length_append, List.length_cons, hl, hd]
  rfl
theorem lv_rd : rdF (tB [lvR]) = ⟨[lvR], 0⟩ := text_back (fun r hr => by rw [List.mem_singleton] at hr; subst hr; exact lvD_ok) lv_tE
set_option maxRecDepth 100000 in
set_option maxHeartbeats 2000000 in
theorem lives17_any {K : World → Prop} (hL : Lasts K) (hT : cmTextOk K) (hR : cmReadOk K) (w : World) (hK : K w) : Calls Tryd.prog 9 #[] w fun e w' => e = .returned (.bool true) ∧ Below w.heap.size w w' := by
  obtain ⟨X, hX⟩ : ∃ X : Fx, X = ⟨lvR, rfl⟩ := ⟨_, rfl⟩
  have HX : Hid (X.1 = lvR) := Lib.hid (by rw [hX])
  obtain ⟨wA, hA⟩ : ∃ W, w.alloc (.cells (mixC X.1.a X.1.dg X.1.t) 41) = W := ⟨_, rfl⟩
  have HA := Lib.hid hA
  have HBA : Hid (Below w.heap.size w wA) := Lib.hid (by rw [← hA]; exact (Below.refl _ _).alloc (Nat.le_refl _) _)
  have HGA : Hid (Gs encRf wA (some ⟨w.heap.size, 0, none⟩) 1 [X]) := Lib.hid (by rw [← hA]; exact Gs.oneRf w X)
  have HOK : Hid (∀ x ∈ [X], x.1.Ok) := Lib.hid (fun x hx => by rw [List.mem_singleton] at hx; subst hx; rw [HX.out]; exact lvR_ok)
  have HT1 := Lib.hid (hT (some ⟨w.heap.size, 0, none⟩) 1 1 [X] wA HGA.out (fun h => by cases h) (Nat.le_refl _) HOK.out (by decide) (hL _ _ hK HBA.out))
  have HR1 := Lib.hid fun q m c W (hb : Bs W q m (tB [lvR])) (hpc : q = none → c = 0) (hmc : m ≤ c) (hcm : c ≤ maxLen) (hW : Below w.heap.size w W) => hR q m c (tB [lvR]) W hb hpc hmc hcm (by rw [← hb.len, lv_len]; decide) (hL _ _ hK hW)
  have HSM := Lib.hid fun (p q : Option Addr) (c d : Nat) (L M : List Fx) W hL' hM he hk => rsame17_any p q 1 c d L M W hL' hM he hk (by decide)
  have HRX : Hid (rfL [X] = [lvR]) := Lib.hid (by show [X.1] = _; rw [HX.out])
  unfold TxQ at HT1
  unfold RdQ at HR1
  rw [HRX.out, lv_tE] at HT1
  rw [lv_rd] at HR1
  have HL91 := Lib.hid lv_len
  have HXC : Hid (mixC X.1.a X.1.dg X.1.t = mixC lvR.a lvR.dg lvR.t) := Lib.hid (by rw [HX.out])
  clear hX hA hT hR
  go_enter Tryd.func9, Tryd.ntmps9
  go_upto_region 2 with (first
    | (refine wpList_build_is rfl 39 _ rfl (bcs lvD) ?_ ?_; focus kernel_rfl)
    | (refine wpList_build_is rfl 41 _ rfl (mixC X.1.a X.1.dg X.1.t) ?_ ?_; focus (rw [HXC.out]; kernel_rfl))
    | (refine wpList_build_rf rfl _ _ rfl Tryd.underlying22 X rfl ?_; rw [HA.out]))
  go_upto_region 3 with (go_at_call 6; refine HT1.out.mono ?_; rintro e w1 ⟨q1, m1, c1, rfl, hb1, hmc1, hcm1, hpc1, hw1⟩; have HB1 := Lib.hid hb1; have HC1 := Lib.hid (And.intro hpc1 (And.intro hmc1 hcm1)); have HW1 := Lib.hid (below_step HBA.out hw1); have HG1 := Lib.hid (HGA.out.later hw1); clear hb1 hmc1 hcm1 hpc1 hw1)
  go_upto_region 4 with (go_at_call 10; refine (HR1.out _ _ _ _ HB1.out HC1.out.1 HC1.out.2.1 HC1.out.2.2 HW1.out).mono ?_; rintro e w2 ⟨q2, m2, c2, L2, rfl, hg2, hl2, _, _, _, hw2⟩; have HG2 := Lib.hid hg2; have HL2 := Lib.hid hl2; have HW2 := Lib.hid (below_step HW1.out hw2); have HG12 := Lib.hid (HG1.out.later hw2); clear hg2 hl2 hw2)
  have hm1 : m1 = 91 := by rw [← HB1.out.len, HL91.out]
  have hm2 : m2 = 1 := by
    have h1 := congrArg List.length HL2.out
    rw [rfL_length, HG2.out.len] at h1
    exact h1
  subst hm1
  subst hm2
  have HS := Lib.hid (HSM.out (some ⟨w.heap.size, 0, none⟩) q2 1 c2 [X] L2 w2 HG12.out HG2.out (by rw [HRX.out, HL2.out]) HOK.out)
  clear HT1 HR1
  go_wp2_with (first
    | (go_at_call 12; refine HS.out.mono ?_; rintro e w3 ⟨rfl, hb3⟩; have HB3 := Lib.hid (below_step HW2.out hb3); clear hb3))
  go_ret
  exact ⟨rfl, HB3.out⟩
end Go.Proofs.YtahjofjblhpndaaDoor
