/- References in memory; rows of them; two of them compared; The reference of layer 17: again; Same; The reference of layer 17: figures; Layer 17, the laws: what they want of package manifest. K: what the program's variables hold; Blocks that hold a reference; Rows of references that a call makes -/
import Derived.Test.YtahjofjblhpndaaDoorMn3
import Derived.Test.YtahjofjblhpndaaDoorMn5
import Derived.Test.YtahjofjblhpndaaDoorMn7
import Derived.Test.YtahjofjblhpndaaDoorMn9
import Derived.DeepKeys
import Derived.Laws.ResultCell
import Derived.Laws.Rows
import Derived.Great.BuildSlice
set_option linter.unusedSimpArgs false
set_option linter.unusedVariables false
namespace Go.Proofs.YtahjofjblhpndaaDoor
set_option linter.unusedVariables false
open Go.RowKit Go.Lib

/-- a reference's cells -/
def Rf.a (x : Rf) : List Value := [.bool x.m]
def Rf.t (x : Rf) : List Value := [.int .i64 x.z]
def Rf.v (x : Rf) : Value := .agg (mixC x.a x.dg x.t)
structure Rf.Ok (x : Rf) : Prop where
  dg : dok x.dg
  z : -9223372036854775808 ≤ x.z ∧ x.z ≤ 9223372036854775807
/-- a reference whose digest has 32 bytes -/
abbrev Fx := { x : Rf // x.dg.length = 32 }
def rf0 : Rf := ⟨false, dzero, 0⟩
theorem size34 : (Tryd.prog.info? 41).map (·.size) = some 34 := by kernel_rfl
def encRf : Ec Fx where
  f := fun x => mixL x.1.a x.1.dg x.1.t
  k := 34
  t := 41
  d := ⟨rf0, rfl⟩
  len := fun x => by rw [mixL_length, x.2]; rfl
  one := fun x v hv => by
    unfold mixL at hv
    rcases List.mem_append.1 hv with h | h
    · rw [Rf.a, List.mem_singleton] at h
      subst h
      rfl
    · rcases List.mem_append.1 h with h | h
      · obtain ⟨y, _, rfl⟩ := List.mem_map.1 h
        rfl
      · rw [Rf.t, List.mem_singleton] at h
        subst h
        rfl
  pos := by decide
/-- the references that a row holds -/
def rfL (L : List Fx) : List Rf := L.map fun x => x.1
theorem rfL_length (L : List Fx) : (rfL L).length = L.length := List.length_map _
theorem rfL_append (L M : List Fx) : rfL (L ++ M) = rfL L ++ rfL M := List.map_append
theorem rfL_take (L : List Fx) (k : Nat) : rfL (L.take k) = (rfL L).take k := by
  unfold rfL
  rw [List.map_take]
/-- one of a row of references -/
theorem Gs.rf {W : World} {p : Option Addr} {n : Nat} {L : List Fx} (h : Gs encRf W p n L) (j : Nat) (hj : j < n) :
    ∃ b off x, p = some ⟨b, off, none⟩ ∧ L[j]? = some x ∧ (rfL L)[j]? = some x.1 ∧ x ∈ L ∧ W.rangeAt b (off + j * 34) (mixL x.1.a x.1.dg x.1.t) := by
  obtain ⟨b, off, hp, hc⟩ := h.ptr j hj
  have hl := h.len
  have hx : L[j]? = some (L[j]'(by omega)) := List.getElem?_eq_getElem _
  have e : L.getD j encRf.d = L[j]'(by omega) := by rw [List.getD_eq_getElem?_getD, hx]; rfl
  rw [e] at hc
  exact ⟨b, off, _, hp, hx, by unfold rfL; rw [List.getElem?_map, hx]; rfl, List.getElem_mem _, fun i v hv => hc i v hv⟩
theorem Gs.rfAt {W : World} {b off n : Nat} {L : List Fx} (h : Gs encRf W (some ⟨b, off, none⟩) n L) (j : Nat) (hj : j < n) :
    ∃ x, L[j]? = some x ∧ (rfL L)[j]? = some x.1 ∧ x ∈ L ∧ W.rangeAt b (off + j * 34) (mixL x.1.a x.1.dg x.1.t) := by
  obtain ⟨b', off', x, hp, h1, h2, h3, h4⟩ := h.rf j hj
  simp only [Option.some.injEq, Addr.mk.injEq, and_true] at hp
  obtain ⟨rfl, rfl⟩ := hp
  exact ⟨x, h1, h2, h3, h4⟩
/-- its cells, field by field -/
theorem rf_cells {W : World} {b o : Nat} {x : Fx} (h : W.rangeAt b o (mixL x.1.a x.1.dg x.1.t)) : W.cell? ⟨b, o, none⟩ = some (.bool x.1.m) ∧ W.rangeAt b (o + 1) (x.1.dg.map (Value.int .u8)) ∧ W.cell? ⟨b, o + 33, none⟩ = some (.int .i64 x.1.z) := by
  refine ⟨h 0 _ rfl, fun i v hv => ?_, ?_⟩
  · have h1 := h (1 + i) v (by
      unfold mixL
      rw [List.getElem?_append_right (by show 1 ≤ 1 + i; omega), show 1 + i - x.1.a.length = i by show 1 + i - 1 = i; omega, List.getElem?_append_left (List.getElem?_eq_some_iff.1 hv).1]
      exact hv)
    rwa [← Nat.add_assoc] at h1
  · exact h 33 _ (by
      unfold mixL
      rw [List.getElem?_append_right (by show 1 ≤ 33; omega), List.getElem?_append_right (by rw [List.length_map, x.2]; show 32 ≤ 33 - 1; omega), List.length_map, x.2]
      rfl)
theorem rf_load {W : World} {b o : Nat} {x : Fx} (h : W.rangeAt b o (mixL x.1.a x.1.dg x.1.t)) : (Instr.loadAt 41 (.pointer (some ⟨b, o, none⟩))).run Tryd.prog W = .ok x.1.v W :=
  run_loadAt_mid W b o 41 _ _ h Tryd.underlying41 rfl (by rw [mixL_length, x.2]; exact size34)
theorem rf_dig {W : World} {b o : Nat} {x : Fx} (h : W.rangeAt b o (mixL x.1.a x.1.dg x.1.t)) : (Instr.loadAt 39 (.pointer (some ⟨b, o + 1, none⟩))).run Tryd.prog W = .ok (.agg (bcs x.1.dg)) W := by
  have h1 := run_loadAt_mid W b (o + 1) 39 _ _ (rf_cells h).2.1 Tryd.underlying39 rfl (by rw [List.length_map, x.2]; exact size32)
  rw [h1]
  rfl
theorem rng_later {W V : World} {b o : Nat} {cs : List Value} (h : W.rangeAt b o cs) (hb : Below W.heap.size W V) : V.rangeAt b o cs := fun i v hv => by
  have h4 := h i v hv
  rw [hb.cell (World.block_lt_of_cell? W _ h4)]
  exact h4
theorem key_i (D : Nat) {n : Int} (h : -9223372036854775808 ≤ n ∧ n ≤ 9223372036854775807) : Tryd.prog.keyLits (D + 1) 3 [.int .i64 n] = some [.int .i64 n] := by
  unfold Program.keyLits
  rw [Tryd.underlying3]
  simp [Lit.wf, IntKind.min, IntKind.max, IntKind.signed, IntKind.bits]
  omega
theorem key_b (D : Nat) (b : Bool) : Tryd.prog.keyLits (D + 1) 4 [.bool b] = some [.bool b] := by
  unfold Program.keyLits
  rw [Tryd.underlying4]
theorem flat1 {α β : Type} (f : α → β) : ∀ l : List α, (l.map fun i => [f i]).flatten = l.map f
  | [] => rfl
  | x :: l => by
    have h := flat1 f l
    simp only [List.map_cons, List.flatten_cons, h, List.singleton_append]
def dgK (l : List Int) : List Lit := (List.range 32).map fun i => Lit.int .u8 (l.getD i 0)
theorem key_dg {l : List Int} (h : dok l) : Tryd.prog.keyLits 3 39 (l.map (Value.int .u8)) = some (dgK l) := by
  unfold Program.keyLits
  rw [Tryd.underlying39]
  have hk := digest_keys l h
  rw [show (bcs l).toList = l.map (Value.int .u8) by simp [bcs]] at hk
  simp only [List.length_map, h.1, cells24, if_true]
  rw [hk]
  exact congrArg some (flat1 _ _)
theorem dgK_length (l : List Int) : (dgK l).length = 32 := by simp [dgK]
theorem dgK_inj {a b : List Int} (ha : dok a) (hb : dok b) (h : dgK a = dgK b) : a = b := by
  unfold dgK at h
  apply List.ext_getElem?
  intro i
  by_cases hi : i < 32
  · have h1 := congrArg (fun l => l[i]?) h
    simp only [List.getElem?_map, List.getElem?_range hi, Option.map_some, Option.some.injEq, Lit.int.injEq, true_and] at h1
    rw [List.getD_eq_getElem?_getD, List.getD_eq_getElem?_getD, List.getElem?_eq_getElem (by rw [ha.1]; exact hi), List.getElem?_eq_getElem (by rw [hb.1]; exact hi)] at h1
    rw [List.getElem?_eq_getElem (by rw [ha.1]; exact hi), List.getElem?_eq_getElem (by rw [hb.1]; exact hi)]
    simpa using h1
  · rw [List.getElem?_eq_none (by rw [ha.1]; omega), List.getElem?_eq_none (by rw [hb.1]; omega)]
def rfK (x : Rf) : List Lit := .bool x.m :: (dgK x.dg ++ [.int .i64 x.z])
theorem rfK_inj {x y : Rf} (hx : dok x.dg) (hy : dok y.dg) (h : rfK x = rfK y) : x = y := by
  obtain ⟨m, d, z⟩ := x
  obtain ⟨m', d', z'⟩ := y
  unfold rfK at h
  simp only [List.cons.injEq, Lit.bool.injEq] at h
  obtain ⟨h1, h2⟩ := h
  have h3 := List.append_inj h2 (by rw [dgK_length, dgK_length])
  have h4 : z = z' := by simpa using h3.2
  have h5 : d = d' := dgK_inj hx hy h3.1
  rw [h1, h5, h4]
set_option maxRecDepth 100000 in
theorem key_rf {x : Rf} (h : x.Ok) : Tryd.prog.keyLits 4 41 (mixL x.a x.dg x.t) = some (rfK x) := by
  have h2 := key_dg h.dg
  have ec : Tryd.prog.cellsOf 41 = 34 := by kernel_rfl
  have e0 : Tryd.prog.cellsOf 3 = 1 := by kernel_rfl
  have e1 : Tryd.prog.cellsOf 4 = 1 := by kernel_rfl
  have hl : (mixL x.a x.dg x.t).length = 34 := by rw [mixL_length, h.dg.1]; rfl
  have hm : mixL x.a x.dg x.t = .bool x.m :: (x.dg.map (Value.int .u8) ++ x.t) := rfl
  have p0 : (x.dg.map (Value.int .u8) ++ x.t).drop 32 = x.t := by
    rw [List.drop_append, List.drop_of_length_le (by rw [List.length_map, h.dg.1]; omega), List.length_map, h.dg.1, List.nil_append, Nat.sub_self, List.drop_zero]
  have ht : (x.dg.map (Value.int .u8) ++ x.t).take 32 = x.dg.map (Value.int .u8) := by
    rw [List.take_left' (by rw [List.length_map, h.dg.1])]
  unfold Program.keyLits
  rw [Tryd.underlying41]
  simp only [hl, ec, true_and]
  rw [if_pos (by kernel_rfl)]
  rw [hm]
  simp only [List.mapM_cons, List.mapM_nil, e0, e1, cells24, List.drop_zero, List.drop_succ_cons, List.take_succ_cons, List.take_zero, ht, p0, h2, key_b 2]
  have t0 : List.take 1 x.t = [.int .i64 x.z] := rfl
  rw [t0, key_i 2 h.z]
  simp [rfK]
set_option maxRecDepth 100000 in
theorem Rf.formed {z : Rf} (h : z.Ok) : Value.formed Tryd.prog 41 (.agg (mixC z.a z.dg z.t)) = true := by
  have hs : (mixC z.a z.dg z.t).size = 34 := by rw [mixC_size, h.dg.1]; rfl
  unfold Value.formed
  rw [Tryd.underlying41]
  have hc : Tryd.prog.cellsOf 41 = 34 := by kernel_rfl
  simp only [hs, hc]
  rfl
set_option maxRecDepth 100000 in
/-- two references are compared -/
theorem rf_eq {x y : Rf} (hx : x.Ok) (hy : y.Ok) (W : World) : (Op.equalIn 10000 41 x.v y.v).run Tryd.prog W = .ok (decide (x = y)) W := by
  obtain ⟨r, hr, hiff⟩ := run_equalIn_deep (P := Tryd.prog) 9996 4 41 (by kernel_rfl) W 4 4 _ _ (rfK x) (rfK y) (Rf.formed hx) (Rf.formed hy) (key_rf hx) (key_rf hy)
  unfold Rf.v
  rw [hr]
  congr 1
  by_cases h : x = y
  · rw [hiff.2 (by rw [h]), decide_eq_true h]
  · rw [decide_eq_false h]
    cases r with
    | false => rfl
    | true => exact absurd (rfK_inj hx.dg hy.dg (hiff.1 rfl)) h
end Go.Proofs.YtahjofjblhpndaaDoor

namespace Go.Proofs.YtahjofjblhpndaaDoor
set_option linter.unusedVariables false
open Go.RowKit Go.Lib

theorem twice_take {l : List Rf} {k : Nat} {q : Rf} (hq : l[k]? = some q) (r : Rf) : twice (l.take (k + 1)) r = (twice (l.take k) r || decide (q.dg = r.dg)) := by
  obtain ⟨hk, he⟩ := List.getElem?_eq_some_iff.1 hq
  unfold twice
  rw [List.take_succ_eq_append_getElem hk, List.any_append, he]
  simp
theorem twice_more {l : List Rf} {k i : Nat} (hk : k ≤ i) {r : Rf} (h : twice (l.take k) r = true) : twice (l.take i) r = true := by
  unfold twice at *
  rw [List.any_eq_true] at *
  obtain ⟨x, hx, h1⟩ := h
  refine ⟨x, ?_, h1⟩
  have h2 : l.take k = (l.take i).take k := by rw [List.take_take, Nat.min_eq_left hk]
  rw [h2] at hx
  exact List.mem_of_mem_take hx
set_option maxRecDepth 100000 in
set_option maxHeartbeats 1000000 in
theorem ragain17_any (p : Option Addr) (n c : Nat) (L : List Fx) (i : Nat) (x : Fx) (w : World) (h : Gs encRf w p n L) (hk : ∀ x ∈ L, x.1.Ok) (hi : i < n) (hx : L[i]? = some x) (hn : n ≤ 1048576) :
    Calls Tryd.prog 16 #[.slice p n c, .int .i64 (i : Int)] w fun e w' => e = .returned (.bool (twice ((rfL L).take i) x.1)) ∧ Below w.heap.size w w' := by
  have H := Lib.hid h
  have HK := Lib.hid hk
  have HX := Lib.hid hx
  have HXK := Lib.hid (hk x (List.mem_of_getElem? hx))
  obtain ⟨b, off, rfl, _⟩ := h.ptr 0 (by omega)
  clear h hk hx
  go_enter Tryd.func16, Tryd.ntmps16
  go_wp2
  go_loopw [5] (fun j wr => ∃ k : Nat, k ≤ i ∧ j = .int .i64 (k : Int) ∧ Hid (twice ((rfL L).take k) x.1 = false) ∧ Hid (Below w.heap.size w wr)) (fun j _ => i - (intOf j).toNat)
  case atStart => exact ⟨0, by omega, rfl, Lib.hid rfl, Lib.hid (Below.refl _ _)⟩
  case round =>
    obtain ⟨k, hki, rfl, hm, hb⟩ := hrel
    by_cases hlt : k < i
    · have hds := H.out.later hb.out
      obtain ⟨y, hy1, hy2, hy3, hr⟩ := hds.rfAt k (by omega)
      obtain ⟨z, hz1, hz2, hz3, hq⟩ := hds.rfAt i hi
      rw [HX.out] at hz1
      obtain rfl : x = z := by simpa using hz1
      have HL1 : Hid (∀ W, (∃ m, W = wr.drewN m) → (Instr.loadAt 39 (.pointer (some ⟨b, off + k * 34 + 1, none⟩))).run Tryd.prog W = .ok (.agg (bcs y.1.dg)) W) := Lib.hid (by rintro W ⟨m, rfl⟩; exact rf_dig (rng_later hr (below_drewN (Below.refl _ _) _)))
      have HL2 : Hid (∀ W, (∃ m, W = wr.drewN m) → (Instr.loadAt 39 (.pointer (some ⟨b, off + i * 34 + 1, none⟩))).run Tryd.prog W = .ok (.agg (bcs x.1.dg)) W) := Lib.hid (by rintro W ⟨m, rfl⟩; exact rf_dig (rng_later hq (below_drewN (Below.refl _ _) _)))
      have heq := fun W => digest_eq y.1.dg x.1.dg (HK.out y hy3).dg HXK.out.dg W
      have HT := Lib.hid (twice_take hy2 x.1)
      have hkn : (k : Int) < (n : Int) := by omega
      have hin : (i : Int) < (n : Int) := by omega
      have hk0 : (0 : Int) ≤ (k : Int) := by omega
      have hi0 : (0 : Int) ≤ (i : Int) := by omega
      obtain ⟨d1, hd1⟩ : ∃ d, y.1.dg = d := ⟨_, rfl⟩
      obtain ⟨d2, hd2⟩ : ∃ d, x.1.dg = d := ⟨_, rfl⟩
      rw [hd1] at HL1 heq HT
      rw [hd2] at HL2 heq HT
      clear hds hr hq hy1 hy2 hy3 hz1 hz2 hz3 hd1 hd2
      go_wp2
      refine wp_region_quiet_lit (by kernel_rfl) (by kernel_rfl) ?_
      repeat (first | (refine quiet_want rfl fun K hK => quiet_load 39 _ rfl _ rfl _ (HL1).out (hK _ ?_); clear hK K) | (refine quiet_want rfl fun K hK => quiet_load 39 _ rfl _ rfl _ (HL2).out (hK _ ?_); clear hK K) | (quiet_step (fail)))
      refine wpQuiet_nil ?_
      intro _ hw'
      obtain ⟨nq, hw''⟩ := hw'
      subst hw''
      have hbd : Below wr.heap.size wr (wr.drewN nq) := below_drewN (Below.refl _ _) _
      have HB2 : Hid (Below w.heap.size w (wr.drewN nq)) := Lib.hid (below_step hb.out hbd)
      clear hbd hb heq
      generalize wr.drewN nq = wd at *
      by_cases hxd : d1 = d2
      · have hT : decide (d1 = d2) = true := by simpa using hxd
        have HF : Hid (twice ((rfL L).take i) x.1 = true) := Lib.hid (twice_more (k := k + 1) (by omega) (by rw [HT.out, hT, Bool.or_true]))
        go_wp2
        go_ret
        exact ⟨ret_bool HF.out.symm, HB2.out⟩
      · have hT : decide (d1 = d2) = false := by simpa using hxd
        have HM2 : Hid (twice ((rfL L).take (k + 1)) x.1 = false) := Lib.hid (by rw [HT.out, hT, hm.out]; rfl)
        go_wp2
        exact ⟨⟨k + 1, by omega, by go_num, HM2, HB2⟩, by simp [intOf] <;> omega⟩
    · obtain rfl : k = i := by omega
      go_wp2
      go_ret
      exact ⟨ret_bool hm.out.symm, hb.out⟩
theorem rfL_inj : ∀ {L M : List Fx}, rfL L = rfL M → L = M
  | [], [], _ => rfl
  | [], y :: M, h => by simp [rfL] at h
  | x :: L, [], h => by simp [rfL] at h
  | x :: L, y :: M, h => by
    unfold rfL at h
    simp only [List.map_cons, List.cons.injEq] at h
    rw [Subtype.ext h.1, rfL_inj h.2]
set_option maxRecDepth 100000 in
set_option maxHeartbeats 2000000 in
theorem rsame17_any (p q : Option Addr) (n c d : Nat) (L M : List Fx) (w : World) (hL : Gs encRf w p n L) (hM : Gs encRf w q n M) (he : rfL L = rfL M) (hk : ∀ x ∈ L, x.1.Ok) (hn : n ≤ 1048576) :
    Calls Tryd.prog 12 #[.slice p n c, .slice q n d] w fun e w' => e = .returned (.bool true) ∧ Below w.heap.size w w' := by
  obtain rfl := rfL_inj he
  have HL := Lib.hid hL
  have HM := Lib.hid hM
  have HK := Lib.hid hk
  clear hL hM he hk
  by_cases h0 : n = 0
  · subst h0
    go_enter Tryd.func12, Tryd.ntmps12
    go_wp2
    go_loopw [5] (fun i wr => i = .int .i64 0 ∧ w = wr) (fun _ _ => 0)
    case atStart => exact ⟨rfl, rfl⟩
    case round =>
      obtain ⟨rfl, rfl⟩ := hrel
      go_wp2
      go_ret
      exact ⟨rfl, Below.refl _ _⟩
  obtain ⟨b, off, rfl, _⟩ := HL.out.ptr 0 (by omega)
  obtain ⟨b2, off2, rfl, _⟩ := HM.out.ptr 0 (by omega)
  clear h0
  go_enter Tryd.func12, Tryd.ntmps12
  go_wp2
  go_loopw [5] (fun i wr => ∃ k : Nat, k ≤ n ∧ i = .int .i64 (k : Int) ∧ Hid (Below w.heap.size w wr)) (fun i _ => n - (intOf i).toNat)
  case atStart => exact ⟨0, by omega, rfl, Lib.hid (Below.refl _ _)⟩
  case round =>
    obtain ⟨k, hkn, rfl, HB⟩ := hrel
    by_cases hlt : k < n
    · obtain ⟨x, hx, _, hxm, hr⟩ := (HL.out.later HB.out).rfAt k hlt
      obtain ⟨y, hy, _, _, hr2⟩ := (HM.out.later HB.out).rfAt k hlt
      rw [hx] at hy
      obtain rfl : x = y := by simpa using hy
      have hki : (k : Int) < (n : Int) := by omega
      have hk0 : (0 : Int) ≤ (k : Int) := by omega
      have heq : ∀ W, (Op.equalIn 10000 41 x.1.v x.1.v).run Tryd.prog W = .ok true W := fun W => by rw [rf_eq (HK.out x hxm) (HK.out x hxm) W, decide_eq_true rfl]
      have HL1 : Hid (∀ W, (∃ m, W = wr.drewN m) → (Instr.loadAt 41 (.pointer (some ⟨b, off + k * 34, none⟩))).run Tryd.prog W = .ok x.1.v W) := Lib.hid (by rintro W ⟨m, rfl⟩; exact rf_load (rng_later hr (below_drewN (Below.refl _ _) _)))
      have HL2 : Hid (∀ W, (∃ m, W = wr.drewN m) → (Instr.loadAt 41 (.pointer (some ⟨b2, off2 + k * 34, none⟩))).run Tryd.prog W = .ok x.1.v W) := Lib.hid (by rintro W ⟨m, rfl⟩; exact rf_load (rng_later hr2 (below_drewN (Below.refl _ _) _)))
      unfold Rf.v at heq HL1 HL2
      generalize mixC x.1.a x.1.dg x.1.t = X at *
      clear hr hr2 hx hxm hy
      go_wp2
      refine wp_region_quiet_lit (by kernel_rfl) (by kernel_rfl) ?_
      repeat (first | (refine quiet_want rfl fun K hK => quiet_load 41 _ rfl _ rfl _ (HL1).out (hK _ ?_); clear hK K) | (refine quiet_want rfl fun K hK => quiet_load 41 _ rfl _ rfl _ (HL2).out (hK _ ?_); clear hK K) | (quiet_step (fail)))
      refine wpQuiet_nil ?_
      intro _ hw'
      obtain ⟨nq, hw''⟩ := hw'
      subst hw''
      have hbd : Below wr.heap.size wr (wr.drewN nq) := below_drewN (Below.refl _ _) _
      have HB2 : Hid (Below w.heap.size w (wr.drewN nq)) := Lib.hid (below_step HB.out hbd)
      clear hbd HB heq
      generalize wr.drewN nq = wd at *
      go_wp2
      exact ⟨⟨k + 1, by omega, by go_num, HB2⟩, by simp [intOf] <;> omega⟩
    · obtain rfl : k = n := by omega
      go_wp2
      go_ret
      exact ⟨rfl, HB.out⟩
end Go.Proofs.YtahjofjblhpndaaDoor

namespace Go.Proofs.YtahjofjblhpndaaDoor
set_option linter.unusedVariables false
open Go.RowKit Go.Lib

theorem dgs_byte (n : Nat) : ∀ j, 0 ≤ (dgs n).getD j 0 ∧ (dgs n).getD j 0 < 256 := fun j => by
  by_cases hj : j < (dgs n).length
  · rw [List.getD_eq_getElem?_getD, List.getElem?_eq_getElem hj]
    have := dgs_fig n _ (List.getElem_mem hj)
    show 0 ≤ (dgs n)[j] ∧ (dgs n)[j] < 256
    omega
  · rw [List.getD_eq_getElem?_getD, List.getElem?_eq_none (by omega)]
    simp
theorem dgs_size {n : Nat} (h : n ≤ 999999999) : (strOfNums (dgs n)).size ≤ 9 := by
  have h1 : (strOfNums (dgs n)).data.toList.length = (dgs n).length := by rw [strOfNums_data, List.length_map]
  have h2 := dgs_length 8 n (by omega)
  have h3 : (strOfNums (dgs n)).size = (dgs n).length := by simpa using h1
  omega
set_option maxRecDepth 100000 in
set_option maxHeartbeats 1000000 in
theorem rfigs17_any (n : Nat) : ∀ (w : World), n ≤ 999999999 → Calls Tryd.prog 27 #[.int .i64 (n : Int)] w fun e w' => e = .returned (.string (strOfNums (dgs n))) ∧ Below w.heap.size w w' := by
  induction n using Nat.strongRecOn with
  | _ n ih =>
    intro w hn
    obtain ⟨N, hN⟩ : ∃ N : Int, (n : Int) = N := ⟨_, rfl⟩
    have HIH := Lib.hid fun W (h : 10 ≤ n) => ih (n / 10) (by omega) W (by omega)
    rw [show ((n / 10 : Nat) : Int) = N / 10 by omega] at HIH
    have hN0 : 0 ≤ N := by omega
    have hN1 : N ≤ 999999999 := by omega
    have q1 : N.tmod 10 = N % 10 := by rw [Int.tmod_eq_emod_of_nonneg hN0]
    have q2 : N.tdiv 10 = N / 10 := by rw [Int.tdiv_eq_ediv_of_nonneg hN0]
    obtain ⟨d, hd⟩ : ∃ d : Int, N % 10 + 48 = d := ⟨_, rfl⟩
    have hd' : 48 + N % 10 = d := by omega
    have hdr : 48 ≤ d ∧ d ≤ 57 := by omega
    have hw : IntKind.u8.wrap d = d := by simp [IntKind.wrap, IntKind.bits, IntKind.signed]; omega
    have hone : ∀ j, 0 ≤ ([d] : List Int).getD j 0 ∧ ([d] : List Int).getD j 0 < 256 := fun j => by
      match j with
      | 0 => simp; omega
      | j + 1 => simp
    have hbs := bs_lit_fr w 5 #[.int .u8 d] (0, 0) [d] 1 rfl hone rfl
    have hcv := hbs.run_string (P := Tryd.prog) 23 5 9 Tryd.underlying23 Tryd.underlying5 Tryd.underlying9 1
    obtain ⟨u, hu⟩ : ∃ u, strOfNums [d] = u := ⟨_, rfl⟩
    have hus : u.size = 1 := by
      have := numsOf_length (strOfNums [d])
      rw [numsOf_strOfNums hone, hu] at this
      simpa using this.symm
    rw [hu] at hcv
    have HB1 := Lib.hid ((Below.refl w.heap.size w).alloc (Nat.le_refl _) (.cells #[.int .u8 d] 5))
    by_cases h10 : n < 10
    · have HR : Hid (u = strOfNums (dgs n)) := Lib.hid (by
        rw [← hu, dgs_small h10, ← hd, hN, show N % 10 = N by omega])
      have h10' : N < 10 := by omega
      have hdc : decide (N < 10) = true := decide_eq_true h10'
      rw [hN]
      clear hbs hone hd hu h10 hN HIH ih
      go_enter Tryd.func27, Tryd.ntmps27
      go_wp2
      go_ret
      exact ⟨by rw [HR.out]; rfl, HB1.out⟩
    · have HR : Hid (strOfNums (dgs (n / 10)) ++ u = strOfNums (dgs n)) := Lib.hid (by
        apply numsOf_inj
        rw [numsOf_append, ← hu, numsOf_strOfNums hone, numsOf_strOfNums (dgs_byte _), numsOf_strOfNums (dgs_byte _), dgs_great h10, show ((n % 10 : Nat) : Int) + 48 = d by omega])
      have hdc : decide (N < 10) = false := decide_eq_false (by omega)
      have h10' : ¬ N < 10 := by omega
      have HC := Lib.hid fun W => HIH.out W (by omega)
      have hz := dgs_size (n := n / 10) (by omega)
      generalize strOfNums (dgs (n / 10)) = t at *
      have hsz : t.size + u.size ≤ 9223372036854775807 := by omega
      rw [hN]
      clear hbs hone hd hu h10 hN HIH ih
      go_enter Tryd.func27, Tryd.ntmps27
      go_wp2_with (go_at_call 27; refine (HC.out _).mono ?_; rintro e w2 ⟨rfl, hb2⟩; have HB2 := Lib.hid (below_step HB1.out hb2); clear hb2)
      go_ret
      exact ⟨by rw [HR.out]; rfl, HB2.out⟩
end Go.Proofs.YtahjofjblhpndaaDoor

namespace Go.Proofs.YtahjofjblhpndaaDoor
set_option linter.unusedVariables false
open Go.RowKit Go.Lib

/-- what outlives all that is done above it -/
def Lasts (K : World → Prop) : Prop := ∀ w w', K w → Below w.heap.size w w' → K w'
def TxQ (w : World) (l : List Rf) (e : Ending) (w' : World) : Prop :=
  ∃ (q : Option Addr) (m c : Nat), e = .returned (.tuple #[.slice q m c, .int .i64 (tE l)]) ∧ Bs w' q m (tB l) ∧ m ≤ c ∧ c ≤ maxLen ∧ (q = none → c = 0) ∧ Below w.heap.size w w'
def RdQ (w : World) (zs : List Int) (e : Ending) (w' : World) : Prop :=
  ∃ (q : Option Addr) (m c : Nat) (L : List Fx), e = .returned (.tuple #[.slice q m c, .int .i64 (rdF zs).err]) ∧ Gs encRf w' q m L ∧ rfL L = (rdF zs).l ∧ m ≤ c ∧ c ≤ maxLen ∧ (q = none → c = 0) ∧ Below w.heap.size w w'
def cmTextOk (K : World → Prop) : Prop := ∀ (p : Option Addr) (n c : Nat) (L : List Fx) (w : World), Gs encRf w p n L → (p = none → c = 0) → n ≤ c → (∀ x ∈ L, x.1.Ok) → n ≤ 1048576 → K w →
    Calls Tryd.prog 6 #[.slice p n c] w fun e w' => TxQ w (rfL L) e w'
def cmReadOk (K : World → Prop) : Prop := ∀ (p : Option Addr) (len cap : Nat) (zs : List Int) (w : World), Bs w p len zs → (p = none → cap = 0) → len ≤ cap → cap ≤ maxLen → len ≤ 1048576 → K w →
    Calls Tryd.prog 10 #[.slice p len cap] w fun e w' => RdQ w zs e w'
theorem TxQ.of {w w' : World} {l : List Rf} {b : List Int} {er : Int} (hb : tB l = b) (he : tE l = er) (q : Option Addr) (m c : Nat) (hs : Bs w' q m b) (hmc : m ≤ c) (hcm : c ≤ maxLen) (hpc : q = none → c = 0) (hw : Below w.heap.size w w') : TxQ w l (.returned (.tuple #[.slice q m c, .int .i64 er])) w' := by
  subst hb he
  exact ⟨q, m, c, rfl, hs, hmc, hcm, hpc, hw⟩
theorem RdQ.of {w w' : World} {zs : List Int} {F : Rd3} (hF : rdF zs = F) (q : Option Addr) (m c : Nat) (L : List Fx) (hg : Gs encRf w' q m L) (hl : rfL L = F.l) (hmc : m ≤ c) (hcm : c ≤ maxLen) (hpc : q = none → c = 0) (hw : Below w.heap.size w w') {er : Int} (he : er = F.err) : RdQ w zs (.returned (.tuple #[.slice q m c, .int .i64 er])) w' := by
  subst hF he
  exact ⟨q, m, c, L, rfl, hg, hl, hmc, hcm, hpc, hw⟩
theorem tE_no {l : List Rf} (h : tE l ≠ 0) : tB l = [] := by unfold tB; rw [if_neg h]
end Go.Proofs.YtahjofjblhpndaaDoor

namespace Go.Proofs.YtahjofjblhpndaaDoor
set_option linter.unusedVariables false
open Go.RowKit Go.Lib

/-- block b holds a reference -/
def Fm (w : World) (b : Nat) (x : Rf) : Prop := Mx w b 41 x.a x.dg x.t
def rf0C : Array Value := #[.bool false, .int .u8 0, .int .u8 0, .int .u8 0, .int .u8 0, .int .u8 0, .int .u8 0, .int .u8 0, .int .u8 0, .int .u8 0, .int .u8 0, .int .u8 0, .int .u8 0, .int .u8 0, .int .u8 0, .int .u8 0, .int .u8 0, .int .u8 0, .int .u8 0, .int .u8 0, .int .u8 0, .int .u8 0, .int .u8 0, .int .u8 0, .int .u8 0, .int .u8 0, .int .u8 0, .int .u8 0, .int .u8 0, .int .u8 0, .int .u8 0, .int .u8 0, .int .u8 0, .int .i64 0]
theorem rf0_cells : mixC rf0.a rf0.dg rf0.t = rf0C := rfl
section
variable {w w' : World} {b : Nat} {x y : Rf}
theorem Fm.lt (h : Fm w b x) : b < w.heap.size := Mx.lt h
theorem Fm.keep (h : Fm w b x) (e : w'.heap[b]? = w.heap[b]?) : Fm w' b x := Mx.keep h e
theorem Fm.later (h : Fm w b x) (hb : Below w.heap.size w w') : Fm w' b x := Mx.later h hb
theorem Fm.other (h : Fm w b x) (a : Addr) (v : Value) (hne : b ≠ a.block) : Fm (w.setCell a v) b x := Mx.other h a v hne
theorem Fm.zero {wA : World} (hA : w.alloc (.cells rf0C 41) = wA) : Fm wA w.heap.size rf0 := by
  rw [← hA]
  exact heap_alloc_new _ _
theorem Fm.cells (h : Fm w b x) (hd : x.dg.length = 32) : w.cell? ⟨b, 0, none⟩ = some (.bool x.m) ∧ w.cell? ⟨b, 33, none⟩ = some (.int .i64 x.z) := ⟨Mx.first h 0 _ rfl, Mx.last h hd 0 _ rfl⟩
theorem Fm.frozen (h : Fm w b x) (j : Nat) : w.frozen? ⟨b, j, none⟩ = false := Mx.frozen h j
theorem Rf.size (x : Rf) (hd : x.dg.length = 32) : (mixC x.a x.dg x.t).size = 34 := by rw [mixC_size, hd]; rfl
theorem Rf.sizeOf (x : Rf) (hd : x.dg.length = 32) : (Tryd.prog.info? 41).map (·.size) = some (mixC x.a x.dg x.t).size := by rw [x.size hd]; exact size34
theorem Rf.sizes (x y : Rf) (hx : x.dg.length = 32) (hy : y.dg.length = 32) : (mixC x.a x.dg x.t).size = (mixC y.a y.dg y.t).size := by rw [x.size hx, y.size hy]
theorem Rf.one (x : Rf) : (mixC x.a x.dg x.t).all (·.oneCell') = true := mixC_one (by simp [Rf.a, Value.oneCell']) (by simp [Rf.t, Value.oneCell'])
theorem Fm.load (h : Fm w b x) (hd : x.dg.length = 32) : (Instr.loadAt 41 (.pointer (some ⟨b, 0, none⟩))).run Tryd.prog w = .ok (.agg (mixC x.a x.dg x.t)) w :=
  Mx.load h _ Tryd.underlying41 rfl (x.sizeOf hd)
theorem Fm.row (h : Fm w b x) : Fm (w.setRow b (mixC y.a y.dg y.t)) b y := Mx.row h
theorem Fm.setM (h : Fm w b x) (m : Bool) : Fm (w.setCell ⟨b, 0, none⟩ (.bool m)) b { x with m := m } := Mx.setFirst h 0 (by show 0 < 1; decide) _
theorem Fm.setZ (h : Fm w b x) (hd : x.dg.length = 32) (z : Int) : Fm (w.setCell ⟨b, 33, none⟩ (.int .i64 z)) b { x with z := z } := Mx.setLast h hd 0 _
theorem Fm.setDg (h : Fm w b x) (hd : x.dg.length = 32) (dg : List Int) (hl : dg.length = 32) : Fm (w.setCells b 1 (dg.map (Value.int .u8))) b { x with dg := dg } := Mx.setDig h (by rw [hl, hd]) 1 rfl
theorem Fm.range (h : Fm w b x) : w.rangeAt b 0 (mixL x.a x.dg x.t) := Mx.range h
theorem Fm.loadVar (hg : Fm w b x) (hd : x.dg.length = 32) : (Go.loadVar 41 ⟨b, 0, none⟩).run Tryd.prog w = .ok x.v w :=
  run_loadVar_mid w b 0 41 _ _ (Mx.range hg) Tryd.underlying41 rfl (by rw [mixL_length, hd]; exact size34)
theorem Fm.res2 {fn : Func} {p u : Tmp} (hg : Fm w b x) (hd : x.dg.length = 32) (h : fn.results = #[.cell p 41, .tmp u]) (tmps : Array Value)
    (hp : tmps.getD p undef = .pointer (some ⟨b, 0, none⟩)) : (Go.results fn tmps).run Tryd.prog w = .ok (.tuple #[x.v, tmps.getD u undef]) w := by
  rw [results_cell_tmp h, hp]
  simp only [asAddr, Sem.run_pure, Result.andThen]
  rw [hg.loadVar hd]
end
theorem rkeep_row {W W' : World} {g : Nat} {cs : Array Value} (h : W.setRow g cs = W') : ∀ k, k ≠ g → W'.heap[k]? = W.heap[k]? := fun k hk => by rw [← h]; exact setRow_other _ _ _ _ hk
theorem rkeep_cells {W W' : World} {g o : Nat} {cs : List Value} (h : W.setCells g o cs = W') : ∀ k, k ≠ g → W'.heap[k]? = W.heap[k]? := fun k hk => by rw [← h]; exact setCells_other _ _ hk _ _ _
theorem accN_bd : ∀ (n : Nat) (l : List Int), l.length = n → (∀ x ∈ l, 0 ≤ x ∧ x < 256) → -(23 * ((10 ^ n : Nat) : Int) - 23) ≤ accN 0 l ∧ accN 0 l ≤ 23 * ((10 ^ n : Nat) : Int) - 23
  | 0, l, h, _ => by
    obtain rfl : l = [] := List.length_eq_zero_iff.1 h
    simp [accN]
  | n + 1, l, h, hb => by
    have hne : l ≠ [] := fun e => by rw [e] at h; simp at h
    obtain ⟨M, x, rfl⟩ : ∃ M x, l = M ++ [x] := ⟨_, _, (List.dropLast_concat_getLast hne).symm⟩
    have hM : M.length = n := by simpa using h
    have h1 := accN_bd n M hM fun y hy => hb y (by simp [hy])
    have h2 := hb x (by simp)
    rw [accN_append, Nat.pow_succ]
    simp only [accN, List.foldl_cons, List.foldl_nil] at h1 ⊢
    omega
end Go.Proofs.YtahjofjblhpndaaDoor

namespace Go.Proofs.YtahjofjblhpndaaDoor
set_option linter.unusedVariables false
open Go.RowKit Go.Lib

def rfzero : Value := .agg (mixC rf0.a rf0.dg rf0.t)
theorem infoRf : (Tryd.prog.info? encRf.t).map (fun i => (i.zero, i.size, i.bytes)) = some (some rfzero, encRf.k, 48) := by kernel_rfl
theorem rfzero_size : rfzero.cells.size = encRf.k := by kernel_rfl
/-- '[]Ref{x}': one reference laid anew. -/
theorem wpList_build_rf {ops : Array Oper} {rest : List Oper} {o : Oper} {a : Act} {w : World} {Q : Exit → Act → World → Prop} (hg : o.guard = none) (t : TypeId) (x : Nat) (ho : o.op = .buildSlice t 1 #[(0, .tmp x)])
    (hu : Tryd.prog.underlying t = some (.slice 41)) (q : Fx) (hx : a.eval (.tmp x) = .agg (mixC q.1.a q.1.dg q.1.t))
    (h : wpList Tryd.prog ops Q rest (a.put o.dst (.slice (some ⟨w.heap.size, 0, none⟩) 1 1)) (w.alloc (.cells (mixC q.1.a q.1.dg q.1.t) 41))) : wpList Tryd.prog ops Q (o :: rest) a w := by
  obtain ⟨i, hi, hzz⟩ := Option.map_eq_some_iff.1 infoRf
  simp only [Prod.mk.injEq] at hzz
  obtain ⟨hz, hsz, _⟩ := hzz
  have hsz' : i.size = 34 := hsz
  refine wpList_buildSlice hg t 41 1 _ ho (mixC q.1.a q.1.dg q.1.t) i _ hu hi hz (by rw [hsz']; decide) (by rw [hsz']; decide) ?_ h
  rw [hsz']
  have hf := Great.fill_whole (s := 34) (by decide) [.agg (mixC q.1.a q.1.dg q.1.t)] ((Array.range (1 * 34)).map (rfzero.cells[· % rfzero.cells.size]!)) (by
    intro v hv
    rw [List.mem_singleton] at hv
    subst hv
    show (mixC q.1.a q.1.dg q.1.t).size = 34
    exact q.1.size q.2) (by simp)
  have e : (#[(0, Operand.tmp x)].map fun (p : Nat × Operand) => (p.1, a.eval p.2)).toList = [((0 : Nat), Value.agg (mixC q.1.a q.1.dg q.1.t))] := by
    simp [hx]
  rw [e]
  refine (Eq.trans ?_ hf).trans ?_
  · rfl
  · simp [Value.cells]
theorem Gs.oneRf (w : World) (q : Fx) : Gs encRf (w.alloc (.cells (mixC q.1.a q.1.dg q.1.t) 41)) (some ⟨w.heap.size, 0, none⟩) 1 [q] := Gs.one encRf w q _ rfl _ _
/-- a reference just read, laid in a block -/
theorem lay_rf {w1 w2 : World} {y : Rf} (h : (w1.alloc (.cells rf0C 41)).setRow w1.heap.size (mixC y.a y.dg y.t) = w2) : Fm w2 w1.heap.size y ∧ Below w1.heap.size w1 w2 := by
  subst h
  exact ⟨Fm.row (Fm.zero rfl), below_setRow8 ((Below.refl _ _).alloc (Nat.le_refl _) _) _ _ (Nat.le_refl _)⟩
end Go.Proofs.YtahjofjblhpndaaDoor
