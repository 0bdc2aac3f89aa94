/- slices.swapRangeCmpFunc at rows of words; slices.rotateCmpFunc at rows of words -/
import Derived.Test.YtpfbfhigelbfcaaGreatSd25
import Derived.Lib.Hide
set_option linter.unusedSimpArgs false
set_option linter.unusedVariables false
namespace Go.Proofs.YtpfbfhigelbfcaaGreat
open Go.Shelf Go.RowKit Go.Lib Go.Sort
variable {α : Type} [Inhabited α] {P : Program} {k : Nat} {enc : α → List Value} {key : α → Int} {cf : α → α → Int} {g : Nat} {cb : Array Value} {blk off size : Nat} {w : World}
set_option maxHeartbeats 4000000 in
set_option maxRecDepth 1000000 in
theorem swr_any (L : StbLay P k) (E : StbEnv P k enc key cf g cb blk off size w) (cap : Nat) (d : Array α) (hd : d.size = size) (a b n : Nat) (ha : a + n ≤ size) (hb : b + n ≤ size) (m : Nat) (os : Array Obj) :
 Calls P 168 #[.slice (some ⟨blk, off, none⟩) size cap, .int .i64 a, .int .i64 b, .int .i64 n, .func (.func g) #[] cb] (sortWorldK enc k w blk off m d os) fun e w' =>
  e = .returned (.tuple #[]) ∧ ∃ m', w' = sortWorldK enc k w blk off m' (swrF d a b n) os := by
 have mixed := L.ins.mixed; have t0 := L.ins.t0; have a0 := L.ins.a0; have z0 := L.ins.z0; have v0 := L.ins.v0; have t3 := L.ins.t3; have a3 := L.ins.a3; have z3 := L.ins.z3; have v3 := L.ins.v3; have t4 := L.ins.t4; have a4 := L.ins.a4; have z4 := L.ins.z4; have v4 := L.ins.v4; have t22 := L.ins.t22; have a22 := L.ins.a22; have z22 := L.ins.z22; have v22 := L.ins.v22; have t25 := L.ins.t25; have a25 := L.ins.a25; have z25 := L.ins.z25; have v25 := L.ins.v25; have aE := L.aE; have zE := L.zE
 simp only [stb_ren] at t0 a0 z0 v0 t3 a3 z3 v3 t4 a4 z4 v4 t22 a22 z22 v22 t25 a25 z25 v25
 have u22 := run_underlying t22
 have EE : Aside _ := E
 have HSZ := Lib.hid E.hsz
 have hs2 := E.hsz
 clear E
 go_enter L.fS, Tryz.ntmps168
 go_wp2
 go_loopg [10] n (fun g1 vi wr => ∃ (i m2 : Nat), vi = .int .i64 i ∧ i ≤ n ∧ n - i ≤ g1 ∧ wr = sortWorldK enc k w blk off m2 (swrF d a b i) os)
 case atStart => exact ⟨0, m, by go_num, Nat.zero_le _, by omega, rfl⟩
 case round =>
  obtain ⟨i, m2, rfl, hin, hg1, rfl⟩ := hrel
  by_cases hlt : i < n
  ·have hltz : (i : Int) < (n : Int) := by omega
   obtain ⟨p, hp⟩ : ∃ p, p = a + i := ⟨_, rfl⟩
   obtain ⟨q, hq⟩ : ∃ q, q = b + i := ⟨_, rfl⟩
   have pz : (a : Int) + (i : Int) = (p : Int) := by omega
   have qz : (b : Int) + (i : Int) = (q : Int) := by omega
   have pw : IntKind.i64.wrap (p : Int) = (p : Int) := by rw [IntKind.wrap_i64]; omega
   have qw : IntKind.i64.wrap (q : Int) = (q : Int) := by rw [IntKind.wrap_i64]; omega
   have pl : (p : Int) < (size : Int) := by omega
   have ql : (q : Int) < (size : Int) := by omega
   have iw : IntKind.i64.wrap ((i : Int) + 1) = (i : Int) + 1 := by rw [IntKind.wrap_i64]; omega
   obtain ⟨dk, hdk⟩ : ∃ x, swrF d a b i = x := ⟨_, rfl⟩
   have hsk : dk.size = size := by rw [← hdk, swrF_size]; exact hd
   have HN : Hid (swrF d a b (i + 1) = swp dk p q) := Lib.hid (by rw [← hdk, hp, hq]; rfl)
   have hpn : p < size := by omega
   have hqn : q < size := by omega
   rw [hdk]
   have PQ : Hid (p = a + i ∧ q = b + i ∧ i + 1 ≤ n ∧ n - (i + 1) < gk) := Lib.hid ⟨hp, hq, by omega, by omega⟩
   clear hp hq hdk
   obtain ⟨xp, hxp⟩ : ∃ x, dk[p]! = x := ⟨_, rfl⟩
   obtain ⟨xq, hxq⟩ : ∃ x, dk[q]! = x := ⟨_, rfl⟩
   obtain ⟨wq, hwq⟩ : ∃ W, sortWorldK enc k w blk off m2 dk os = W := ⟨_, rfl⟩
   have hHd : HoldsK enc k wq.drew blk off dk := by
    have h : HoldsK enc k wq blk off dk := by rw [← hwq]; exact EE.out.holds _ _ _ hsk
    exact h
   have bnd : ∀ x, x < dk.size → x * k + k ≤ dk.size * k := fun x hx => by
    have := Nat.mul_le_mul_right k (show x + 1 ≤ dk.size from hx); rwa [Nat.add_mul, Nat.one_mul] at this
   have lp : Sem.run P (loadCellsFrom ⟨blk, off + p * k, none⟩ 0 k #[]) wq.drew = .ok (enc xp).toArray wq.drew := by rw [← hxp]; exact run_loadCellsFrom_list P _ _ _ k (EE.out.hk _) (HoldsK.cells hHd EE.out.hk (by omega))
   have lq : Sem.run P (loadCellsFrom ⟨blk, off + q * k, none⟩ 0 k #[]) wq.drew = .ok (enc xq).toArray wq.drew := by rw [← hxq]; exact run_loadCellsFrom_list P _ _ _ k (EE.out.hk _) (HoldsK.cells hHd EE.out.hk (by omega))
   have s1 : Sem.run P (storeCells ⟨blk, off + p * k, none⟩ (enc xq) 0) wq.drew = .ok () (wq.drew.setCells blk (off + p * k) (enc xq)) := stores_of_holds P hHd (p * k) _ (by rw [EE.out.hk, size_flatK]; exact bnd p (by omega)) (EE.out.h1 _)
   have s2 : Sem.run P (storeCells ⟨blk, off + q * k, none⟩ (enc xp) 0) (wq.drew.setCells blk (off + p * k) (enc xq)) = .ok () ((wq.drew.setCells blk (off + p * k) (enc xq)).setCells blk (off + q * k) (enc xp)) :=
    stores_of_holds P (holds_setCells_c hHd (p * k) _ (by rw [EE.out.hk, size_flatK]; exact bnd p (by omega))) (q * k) _ (by rw [EE.out.hk, size_setMany, size_flatK]; exact bnd q (by omega)) (EE.out.h1 _)
   have hsP : (enc xp).length = k := EE.out.hk _
   have hsQ : (enc xq).length = k := EE.out.hk _
   obtain ⟨cP, hcP⟩ : ∃ c, c = enc xp := ⟨_, rfl⟩
   obtain ⟨cQ, hcQ⟩ : ∃ c, c = enc xq := ⟨_, rfl⟩
   rw [← hcP] at lp hsP
   rw [← hcQ] at lq hsQ s1
   rw [← hcP, ← hcQ] at s2
   have HF : Hid (∃ m', (wq.drew.setCells blk (off + p * k) cQ).setCells blk (off + q * k) cP = sortWorldK enc k w blk off m' (swrF d a b (i + 1)) os) := Lib.hid (by
    rw [HN.out, hcP, hcQ, ← hxp, ← hxq, ← hwq]
    exact ⟨_, sortWorldK_swp_c enc k w blk off EE.out.hk m2 dk os EE.out.hblk p q (by omega) (by omega)⟩)
   rw [hwq]
   clear hwq hHd bnd hcP hcQ hxp hxq HN
   go_wp2_with fail
   go_big_region_o
   all_goals go_wp2
   go_roundg (n - (i + 1))
   case measure => exact PQ.out.2.2.2
   case rel =>
    obtain ⟨m', hm'⟩ := HF.out
    exact ⟨i + 1, m', by first | rfl | go_num, PQ.out.2.2.1, Nat.le_refl _, hm'⟩
  ·have hltz : ¬ (i : Int) < (n : Int) := by omega
   obtain rfl : i = n := by omega
   go_wp2
   go_end0
   exact ⟨rfl, m2, rfl⟩
variable {α : Type} [Inhabited α] {P : Program} {k : Nat} {enc : α → List Value} {key : α → Int} {cf : α → α → Int} {g : Nat} {cb : Array Value} {blk off size : Nat} {w : World}
/-- two parts of one length, beside others, exchanged -/
theorem swr_lists (L : StbLay P k) (E : StbEnv P k enc key cf g cb blk off size w) (cap : Nat) (X A M B Z : List α) (hAB : A.length = B.length) (hl : (X ++ (A ++ (M ++ (B ++ Z)))).length = size) (a b n : Nat) (ha : a = X.length) (hb : b = X.length + A.length + M.length) (hn : n = A.length) (m : Nat) (os : Array Obj) :
 Calls P 168 #[.slice (some ⟨blk, off, none⟩) size cap, .int .i64 a, .int .i64 b, .int .i64 n, .func (.func g) #[] cb] (sortWorldK enc k w blk off m (X ++ (A ++ (M ++ (B ++ Z)))).toArray os) fun e w' =>
  e = .returned (.tuple #[]) ∧ ∃ m', w' = sortWorldK enc k w blk off m' (X ++ (B ++ (M ++ (A ++ Z)))).toArray os := by
 subst ha hb hn
 have h := swr_any L E cap (X ++ (A ++ (M ++ (B ++ Z)))).toArray (by rw [List.size_toArray]; exact hl) X.length (X.length + A.length + M.length) A.length (by rw [← hl]; simp) (by rw [← hl]; simp; omega) m os
 rw [swrF_all X A M B Z hAB] at h
 exact h
set_option maxHeartbeats 4000000 in
set_option maxRecDepth 1000000 in
theorem rot_any (L : StbLay P k) (E : StbEnv P k enc key cf g cb blk off size w) (cap : Nat) (X U V Z : List α) (hU : 0 < U.length) (hV : 0 < V.length) (hl : (X ++ (U ++ (V ++ Z))).length = size) (a mm b : Nat) (ha : a = X.length) (hmm : mm = X.length + U.length) (hb : b = X.length + U.length + V.length) (m : Nat) (os : Array Obj) :
 Calls P 149 #[.slice (some ⟨blk, off, none⟩) size cap, .int .i64 a, .int .i64 mm, .int .i64 b, .func (.func g) #[] cb] (sortWorldK enc k w blk off m (X ++ (U ++ (V ++ Z))).toArray os) fun e w' =>
  e = .returned (.tuple #[]) ∧ ∃ m', w' = sortWorldK enc k w blk off m' (X ++ (V ++ (U ++ Z))).toArray os := by
 have mixed := L.ins.mixed; have t0 := L.ins.t0; have a0 := L.ins.a0; have z0 := L.ins.z0; have v0 := L.ins.v0; have t3 := L.ins.t3; have a3 := L.ins.a3; have z3 := L.ins.z3; have v3 := L.ins.v3; have t4 := L.ins.t4; have a4 := L.ins.a4; have z4 := L.ins.z4; have v4 := L.ins.v4; have t22 := L.ins.t22; have a22 := L.ins.a22; have z22 := L.ins.z22; have v22 := L.ins.v22; have t25 := L.ins.t25; have a25 := L.ins.a25; have z25 := L.ins.z25; have v25 := L.ins.v25; have aE := L.aE; have zE := L.zE
 simp only [stb_ren] at t0 a0 z0 v0 t3 a3 z3 v3 t4 a4 z4 v4 t22 a22 z22 v22 t25 a25 z25 v25
 have eS : ∀ args w, (callFunc 168 args).run P w = .ok (.enter 168 args) w := enters_of L.fS (by kernel_rfl) rfl
 have EE : Aside _ := E
 have hs2 := E.hsz
 have hlz : mm < 4611686018427387904 ∧ b < 4611686018427387904 := by
  rw [← hl] at hs2; simp only [List.length_append] at hs2; omega
 obtain ⟨lz1, lz2⟩ := hlz
 clear E
 obtain ⟨i0, hi0⟩ : ∃ x, x = U.length := ⟨_, rfl⟩
 obtain ⟨j0, hj0⟩ : ∃ x, x = V.length := ⟨_, rfl⟩
 have d1 : (mm : Int) - (a : Int) = (i0 : Int) := by omega
 have d2 : (b : Int) - (mm : Int) = (j0 : Int) := by omega
 have HST := Lib.hid (⟨hU, hV, hl, ha, hmm, hb, hi0, hj0⟩ : 0 < U.length ∧ 0 < V.length ∧ (X ++ (U ++ (V ++ Z))).length = size ∧ a = X.length ∧ mm = X.length + U.length ∧ b = X.length + U.length + V.length ∧ i0 = U.length ∧ j0 = V.length)
 obtain ⟨G, hG⟩ : ∃ G, (X ++ (V ++ (U ++ Z))).toArray = G := ⟨_, rfl⟩
 rw [hG]
 have HG := Lib.hid hG
 obtain ⟨D, hD⟩ : ∃ G, (X ++ (U ++ (V ++ Z))).toArray = G := ⟨_, rfl⟩
 rw [hD]
 have HD := Lib.hid hD
 have iw : IntKind.i64.wrap (i0 : Int) = (i0 : Int) := by rw [IntKind.wrap_i64]; omega
 have jw : IntKind.i64.wrap (j0 : Int) = (j0 : Int) := by rw [IntKind.wrap_i64]; omega
 clear hG hD hU hV hl ha hmm hb hi0 hj0
 go_enter L.fR, Tryz.ntmps149
 go_wp2
 go_loopg [10, 11] (i0 + j0) (fun g1 vi vj wr => ∃ (i j m2 : Nat) (d : Array α), vi = .int .i64 i ∧ vj = .int .i64 j ∧ 0 < i ∧ 0 < j ∧ i ≤ mm ∧ i + j ≤ g1 ∧ wr = sortWorldK enc k w blk off m2 d os ∧ Hid (∃ X' U' V' Z' : List α, d = (X' ++ (U' ++ (V' ++ Z'))).toArray ∧ (X' ++ (U' ++ (V' ++ Z'))).length = size ∧ i = U'.length ∧ j = V'.length ∧ mm = X'.length + U'.length ∧ (X' ++ (V' ++ (U' ++ Z'))).toArray = G))
 case atStart =>
  obtain ⟨h1, h2, h3, h4, h5, h6, h7, h8⟩ := HST.out
  exact ⟨i0, j0, m, D, rfl, rfl, by omega, by omega, by omega, Nat.le_refl _, rfl, ⟨X, U, V, Z, HD.out.symm, h3, h7, h8, h5, HG.out⟩⟩
 case round =>
  obtain ⟨i, j, m2, d, rfl, rfl, hi, hj, him, hgk, rfl, HI⟩ := hrel
  obtain ⟨x, hx⟩ : ∃ x, mm = x + i := ⟨mm - i, by omega⟩
  have xz : (mm : Int) - (i : Int) = (x : Int) := by omega
  have xw : IntKind.i64.wrap (x : Int) = (x : Int) := by rw [IntKind.wrap_i64]; omega
  have HJ : Hid (j ≤ size ∧ mm + j ≤ size) := by
   obtain ⟨X', U', V', Z', hd, hl, h1, h2, h3, h4⟩ := HI.out
   show j ≤ size ∧ mm + j ≤ size
   rw [← hl]; simp only [List.length_append]; omega
  have hj2 : mm + j < 4611686018427387904 := Nat.lt_of_le_of_lt HJ.out.2 hs2
  have HX := Lib.hid hx
  have HGK := Lib.hid hgk
  clear hx hgk
  rcases Nat.lt_trichotomy i j with h | h | h
  ·have c1 : ((i : Int) == (j : Int)) = false := by simp; omega
   have c2 : ¬ (j : Int) < (i : Int) := by omega
   obtain ⟨y, hy⟩ : ∃ y, y = mm + j - i := ⟨_, rfl⟩
   obtain ⟨s, hs⟩ : ∃ s, s = mm + j := ⟨_, rfl⟩
   have s1 : (mm : Int) + (j : Int) = (s : Int) := by omega
   have s2 : IntKind.i64.wrap (s : Int) = (s : Int) := by rw [IntKind.wrap_i64]; omega
   have y1 : (s : Int) - (i : Int) = (y : Int) := by omega
   have y2 : IntKind.i64.wrap (y : Int) = (y : Int) := by rw [IntKind.wrap_i64]; omega
   obtain ⟨j', hj'⟩ : ∃ j', j' = j - i := ⟨_, rfl⟩
   have j1 : (j : Int) - (i : Int) = (j' : Int) := by omega
   have j2 : IntKind.i64.wrap (j' : Int) = (j' : Int) := by rw [IntKind.wrap_i64]; omega
   have HC : Hid (Calls P 168 #[.slice (some ⟨blk, off, none⟩) size cap, .int .i64 x, .int .i64 y, .int .i64 i, .func (.func g) #[] cb] (sortWorldK enc k w blk off m2 d os) fun e w' => e = .returned (.tuple #[]) ∧ ∃ m' d', w' = sortWorldK enc k w blk off m' d' os ∧ Hid (∃ X' U' V' Z' : List α, d' = (X' ++ (U' ++ (V' ++ Z'))).toArray ∧ (X' ++ (U' ++ (V' ++ Z'))).length = size ∧ i = U'.length ∧ j' = V'.length ∧ mm = X'.length + U'.length ∧ (X' ++ (V' ++ (U' ++ Z'))).toArray = G)) := by
    obtain ⟨X', U', V', Z', rfl, hl, h1, h2, h3, h4⟩ := HI.out
    obtain ⟨V1, V2, hV, hV2⟩ : ∃ V1 V2, V' = V1 ++ V2 ∧ V2.length = i := ⟨V'.take (j - i), V'.drop (j - i), (List.take_append_drop _ _).symm, by rw [List.length_drop]; omega⟩
    subst hV
    have hxx := HX.out
    rw [List.length_append] at h2
    show Calls _ _ _ _ _
    have e0 : X' ++ (U' ++ (V1 ++ V2 ++ Z')) = X' ++ (U' ++ (V1 ++ (V2 ++ Z'))) := by simp
    rw [e0] at hl ⊢
    refine Calls.mono (swr_lists L EE.out cap X' U' V1 V2 Z' (by omega) hl x y i (by omega) (by omega) (by omega) m2 os) ?_
    rintro e w' ⟨rfl, m', rfl⟩
    refine ⟨rfl, m', _, rfl, X', V2, V1, U' ++ Z', rfl, ?_, by omega, by omega, by omega, ?_⟩
    ·rw [← hl]; simp only [List.length_append]; omega
    ·rw [← h4]; simp
   have HM : Hid (0 < j' ∧ i + j' < gk) := Lib.hid (by have := HGK.out; omega)
   clear hy hs hj'
   go_wp2_with (go_at_fn 168; refine HC.out.mono ?_; rintro e w1 ⟨rfl, m3, d3, rfl, HI3⟩)
   go_roundg (i + j')
   case measure => exact HM.out.2
   case rel => exact ⟨i, j', m3, d3, rfl, by first | rfl | go_num, hi, HM.out.1, him, Nat.le_refl _, rfl, HI3⟩
  ·subst h
   have c1 : ((i : Int) == (i : Int)) = true := by simp
   have HC : Hid (Calls P 168 #[.slice (some ⟨blk, off, none⟩) size cap, .int .i64 x, .int .i64 mm, .int .i64 i, .func (.func g) #[] cb] (sortWorldK enc k w blk off m2 d os) fun e w' => e = .returned (.tuple #[]) ∧ ∃ m', w' = sortWorldK enc k w blk off m' G os) := by
    obtain ⟨X', U', V', Z', rfl, hl, h1, h2, h3, h4⟩ := HI.out
    have hxx := HX.out
    show Calls _ _ _ _ _
    refine Calls.mono (swr_lists L EE.out cap X' U' [] V' Z' (by omega) hl x mm i (by omega) (by simp; omega) (by omega) m2 os) ?_
    rintro e w' ⟨rfl, m', rfl⟩
    exact ⟨rfl, m', by rw [← h4]; simp⟩
   go_wp2_with (go_at_fn 168; refine HC.out.mono ?_; rintro e w1 ⟨rfl, m3, rfl⟩)
   go_end0
   exact ⟨rfl, m3, rfl⟩
  ·have c1 : ((i : Int) == (j : Int)) = false := by simp; omega
   have c2 : (j : Int) < (i : Int) := by omega
   obtain ⟨i', hi'⟩ : ∃ i', i' = i - j := ⟨_, rfl⟩
   have j1 : (i : Int) - (j : Int) = (i' : Int) := by omega
   have j2 : IntKind.i64.wrap (i' : Int) = (i' : Int) := by rw [IntKind.wrap_i64]; omega
   have HC : Hid (Calls P 168 #[.slice (some ⟨blk, off, none⟩) size cap, .int .i64 x, .int .i64 mm, .int .i64 j, .func (.func g) #[] cb] (sortWorldK enc k w blk off m2 d os) fun e w' => e = .returned (.tuple #[]) ∧ ∃ m' d', w' = sortWorldK enc k w blk off m' d' os ∧ Hid (∃ X' U' V' Z' : List α, d' = (X' ++ (U' ++ (V' ++ Z'))).toArray ∧ (X' ++ (U' ++ (V' ++ Z'))).length = size ∧ i' = U'.length ∧ j = V'.length ∧ mm = X'.length + U'.length ∧ (X' ++ (V' ++ (U' ++ Z'))).toArray = G)) := by
    obtain ⟨X', U', V', Z', rfl, hl, h1, h2, h3, h4⟩ := HI.out
    obtain ⟨U1, U2, hV, hV2⟩ : ∃ U1 U2, U' = U1 ++ U2 ∧ U1.length = j := ⟨U'.take j, U'.drop j, (List.take_append_drop _ _).symm, by rw [List.length_take]; omega⟩
    subst hV
    have hxx := HX.out
    rw [List.length_append] at h1 h3
    show Calls _ _ _ _ _
    have e0 : X' ++ (U1 ++ U2 ++ (V' ++ Z')) = X' ++ (U1 ++ (U2 ++ (V' ++ Z'))) := by simp
    rw [e0] at hl ⊢
    refine Calls.mono (swr_lists L EE.out cap X' U1 U2 V' Z' (by omega) hl x mm j (by omega) (by omega) (by omega) m2 os) ?_
    rintro e w' ⟨rfl, m', rfl⟩
    refine ⟨rfl, m', _, rfl, X' ++ V', U2, U1, Z', by simp, ?_, by omega, by omega, ?_, ?_⟩
    ·rw [← hl]; simp only [List.length_append]; omega
    ·rw [List.length_append]; omega
    ·rw [← h4]; simp
   have HM : Hid (0 < i' ∧ i' ≤ mm ∧ i' + j < gk) := Lib.hid (by have := HGK.out; omega)
   clear hi'
   go_wp2_with (go_at_fn 168; refine HC.out.mono ?_; rintro e w1 ⟨rfl, m3, d3, rfl, HI3⟩)
   go_roundg (i' + j)
   case measure => exact HM.out.2.2
   case rel => exact ⟨i', j, m3, d3, by first | rfl | go_num, rfl, HM.out.1, hj, HM.out.2.1, Nat.le_refl _, rfl, HI3⟩
end Go.Proofs.YtpfbfhigelbfcaaGreat

