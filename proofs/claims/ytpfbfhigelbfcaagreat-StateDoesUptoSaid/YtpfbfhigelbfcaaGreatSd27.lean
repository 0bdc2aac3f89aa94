/- slices.symMergeCmpFunc at rows of words: a comparison, an exchange; merges of one element; slices.symMergeCmpFunc at rows of words: merges with one element on the right -/
import Derived.Test.YtpfbfhigelbfcaaGreatSd26
import Derived.Deep.DeepCutAuto
set_option linter.unusedSimpArgs false
set_option linter.unusedVariables false
namespace Go.Proofs.YtpfbfhigelbfcaaGreat
open Go.Shelf Go.RowKit Go.Lib Go.Sort
variable {α : Type} [Inhabited α] {P : Program} {k : Nat} {enc : α → List Value} {key : α → Int} {cf : α → α → Int} {g : Nat} {cb : Array Value} {blk off size : Nat} {w : World}
/-- what an exchange of two elements wants and does -/
theorem stb_swap (E : StbEnv P k enc key cf g cb blk off size w) (m : Nat) (d : Array α) (os : Array Obj) (hd : d.size = size) (p q : Nat) (hp : p < size) (hq : q < size) :
 ∃ (W : World) (cP cQ : List Value), sortWorldK enc k w blk off m d os = W ∧
   Sem.run P (loadCellsFrom ⟨blk, off + p * k, none⟩ 0 k #[]) W.drew = .ok cP.toArray W.drew ∧
   Sem.run P (loadCellsFrom ⟨blk, off + q * k, none⟩ 0 k #[]) W.drew = .ok cQ.toArray W.drew ∧
   Sem.run P (storeCells ⟨blk, off + p * k, none⟩ cQ 0) W.drew = .ok () (W.drew.setCells blk (off + p * k) cQ) ∧
   Sem.run P (storeCells ⟨blk, off + q * k, none⟩ cP 0) (W.drew.setCells blk (off + p * k) cQ) = .ok () ((W.drew.setCells blk (off + p * k) cQ).setCells blk (off + q * k) cP) ∧
   cP.length = k ∧ cQ.length = k ∧ Hid (∃ m', (W.drew.setCells blk (off + p * k) cQ).setCells blk (off + q * k) cP = sortWorldK enc k w blk off m' (swp d p q) os) := by
 obtain ⟨W, hW⟩ : ∃ W, sortWorldK enc k w blk off m d os = W := ⟨_, rfl⟩
 have hHd : HoldsK enc k W.drew blk off d := by
  have h : HoldsK enc k W blk off d := by rw [← hW]; exact E.holds _ _ _ hd
  exact h
 have bnd : ∀ x, x < d.size → x * k + k ≤ d.size * k := fun x hx => by
  have := Nat.mul_le_mul_right k (show x + 1 ≤ d.size from hx); rwa [Nat.add_mul, Nat.one_mul] at this
 refine ⟨W, enc d[p]!, enc d[q]!, hW, ?_, ?_, ?_, ?_, E.hk _, E.hk _, ?_⟩
 ·exact run_loadCellsFrom_list P _ _ _ k (E.hk _) (HoldsK.cells hHd E.hk (by omega))
 ·exact run_loadCellsFrom_list P _ _ _ k (E.hk _) (HoldsK.cells hHd E.hk (by omega))
 ·exact stores_of_holds P hHd (p * k) _ (by rw [E.hk, size_flatK]; exact bnd p (by omega)) (E.h1 _)
 ·exact stores_of_holds P (holds_setCells_c hHd (p * k) _ (by rw [E.hk, size_flatK]; exact bnd p (by omega))) (q * k) _ (by rw [E.hk, size_setMany, size_flatK]; exact bnd q (by omega)) (E.h1 _)
 ·show ∃ m', _
  rw [← hW]
  exact ⟨_, sortWorldK_swp_c enc k w blk off E.hk m d os E.hblk p q (by omega) (by omega)⟩
/-- what a comparison of two elements wants and says -/
theorem stb_cmp (E : StbEnv P k enc key cf g cb blk off size w) (m : Nat) (d : Array α) (os : Array Obj) (hd : d.size = size) (p q : Nat) (hp : p < size) (hq : q < size) :
 ∃ (W : World) (cP cQ : List Value) (c : Int), sortWorldK enc k w blk off m d os = W ∧
   (∀ n' os', Sem.run P (loadCellsFrom ⟨blk, off + p * k, none⟩ 0 k #[]) (grow (W.drewN n') os') = .ok cP.toArray (grow (W.drewN n') os')) ∧
   (∀ n' os', Sem.run P (loadCellsFrom ⟨blk, off + q * k, none⟩ 0 k #[]) (grow (W.drewN n') os') = .ok cQ.toArray (grow (W.drewN n') os')) ∧
   (∀ n' os', Calls P g (#[.agg cP.toArray, .agg cQ.toArray] ++ cb) (grow (W.drewN n') os') fun e w' => e = .returned (.int .i64 c) ∧ ∃ q os'', w' = grow ((grow (W.drewN n') os').drewN q) os'') ∧
   Hid (∀ n' os', ∃ m' os'', grow (W.drewN n') os' = sortWorldK enc k w blk off m' d os'') ∧ cP.length = k ∧ cQ.length = k ∧ Hid (c < 0 ↔ key d[p]! < key d[q]!) := by
 have hcls : ∀ n' os', grow ((sortWorldK enc k w blk off m d os).drewN n') os' = sortWorldK enc k w blk off (m + n') d (os ++ os') := fun n' os' => sortWorldK_grown_c enc k w blk off m n' d os os'
 have hHc : ∀ n' os', HoldsK enc k (grow ((sortWorldK enc k w blk off m d os).drewN n') os') blk off d := fun n' os' => by rw [hcls]; exact E.holds _ _ _ hd
 refine ⟨_, enc d[p]!, enc d[q]!, cf d[p]! d[q]!, rfl, fun n' os' => ?_, fun n' os' => ?_, fun n' os' => ?_, fun n' os' => ⟨_, _, hcls n' os'⟩, E.hk _, E.hk _, ?_⟩
 ·exact run_loadCellsFrom_list P _ _ _ k (E.hk _) (HoldsK.cells (hHc n' os') E.hk (by omega))
 ·exact run_loadCellsFrom_list P _ _ _ k (E.hk _) (HoldsK.cells (hHc n' os') E.hk (by omega))
 ·rw [hcls]
  exact E.hcmp _ _ d hd d[p]! d[q]!
 ·have h := E.hlt d[p]! d[q]!
  unfold ltOf at h
  exact decide_eq_decide.1 h
/-- an element on its way up -/
def upF (d : Array α) (a : Nat) : Nat → Array α
 | 0 => d
 | t + 1 => swp (upF d a t) (a + t) (a + t + 1)
theorem upF_size (d : Array α) (a : Nat) : ∀ t, (upF d a t).size = d.size
 | 0 => rfl
 | t + 1 => by unfold upF; rw [size_swp, upF_size d a t]
theorem upF_is (X : List α) (x : α) (M Z : List α) : ∀ t, t ≤ M.length → upF (X ++ x :: (M ++ Z)).toArray X.length t = (X ++ (M.take t ++ x :: (M.drop t ++ Z))).toArray
 | 0, _ => by simp [upF]
 | t + 1, ht => by
   unfold upF
   rw [upF_is X x M Z t (by omega)]
   have hM : ∃ y M', M.drop t = y :: M' ∧ M.drop (t + 1) = M' ∧ M.take (t + 1) = M.take t ++ [y] := ⟨_, _, List.drop_eq_getElem_cons (show t < M.length by omega), rfl, List.take_succ_eq_append_getElem (show t < M.length by omega)⟩
   have l1 : (M.take t).length = t := by rw [List.length_take]; omega
   obtain ⟨y, M', h1, h2, h3⟩ := hM
   rw [h1, h2, h3]
   generalize M.take t = M0 at *
   rw [show X.length + t = (X ++ M0).length by rw [List.length_append, l1], show X ++ (M0 ++ x :: (y :: M' ++ Z)) = (X ++ M0) ++ x :: y :: (M' ++ Z) by simp, swp_adj]
   congr 1
   simp
theorem upF_all (X : List α) (x : α) (M Z : List α) : upF (X ++ x :: (M ++ Z)).toArray X.length M.length = (X ++ (M ++ x :: Z)).toArray := by
 rw [upF_is X x M Z _ (Nat.le_refl _), List.take_of_length_le (Nat.le_refl _), List.drop_eq_nil_of_le (Nat.le_refl _)]
 rfl
/-- an element on its way down -/
def dnF (d : Array α) (b : Nat) : Nat → Array α
 | 0 => d
 | t + 1 => swp (dnF d b t) (b - t) (b - t - 1)
theorem dnF_size (d : Array α) (b : Nat) : ∀ t, (dnF d b t).size = d.size
 | 0 => rfl
 | t + 1 => by unfold dnF; rw [size_swp, dnF_size d b t]
theorem dnF_is (X : List α) (y : α) (Z : List α) : ∀ (t : Nat) (M1 M2 : List α), M2.length = t → dnF (X ++ (M1 ++ (M2 ++ y :: Z))).toArray (X.length + M1.length + t) t = (X ++ (M1 ++ y :: (M2 ++ Z))).toArray
 | 0, M1, M2, h => by
   obtain rfl : M2 = [] := List.length_eq_zero_iff.1 h
   rfl
 | t + 1, M1, M2, h => by
   cases M2 with
   | nil => cases h
   | cons z M2 =>
     have h1 : M2.length = t := by simpa using h
     have ih := dnF_is X y Z t (M1 ++ [z]) M2 h1
     rw [show X ++ ((M1 ++ [z]) ++ (M2 ++ y :: Z)) = X ++ (M1 ++ (z :: M2 ++ y :: Z)) by simp, show X.length + (M1 ++ [z]).length + t = X.length + M1.length + (t + 1) by simp; omega] at ih
     unfold dnF
     rw [ih, show X.length + M1.length + (t + 1) - t = (X ++ M1).length + 1 by rw [List.length_append]; omega, show (X ++ M1).length + 1 - 1 = (X ++ M1).length by omega, show X ++ ((M1 ++ [z]) ++ y :: (M2 ++ Z)) = (X ++ M1) ++ z :: y :: (M2 ++ Z) by simp, swp_adj']
     congr 1
     simp
set_option maxHeartbeats 4000000 in
set_option maxRecDepth 1000000 in
theorem sym_first (L : StbLay P k) (E : StbEnv P k enc key cf g cb blk off size w) (cap : Nat) (X : List α) (x : α) (B Z : List α) (hB : Srt key B) (hl : (X ++ ([x] ++ (B ++ Z))).length = size) (a mm b : Nat) (ha : a = X.length) (hmm : mm = X.length + 1) (hb : b = X.length + 1 + B.length) (m : Nat) (os : Array Obj) :
 Calls P 125 #[.slice (some ⟨blk, off, none⟩) size cap, .int .i64 a, .int .i64 mm, .int .i64 b, .func (.func g) #[] cb] (sortWorldK enc k w blk off m (X ++ ([x] ++ (B ++ Z))).toArray os) fun e w' =>
  e = .returned (.tuple #[]) ∧ ∃ m' os', w' = sortWorldK enc k w blk off m' (X ++ (sortK key ([x] ++ B) ++ Z)).toArray os' := by
 have mixed := L.ins.mixed; have t0 := L.ins.t0; have a0 := L.ins.a0; have z0 := L.ins.z0; have v0 := L.ins.v0; have t3 := L.ins.t3; have a3 := L.ins.a3; have z3 := L.ins.z3; have v3 := L.ins.v3; have t4 := L.ins.t4; have a4 := L.ins.a4; have z4 := L.ins.z4; have v4 := L.ins.v4; have t22 := L.ins.t22; have a22 := L.ins.a22; have z22 := L.ins.z22; have v22 := L.ins.v22; have t25 := L.ins.t25; have a25 := L.ins.a25; have z25 := L.ins.z25; have v25 := L.ins.v25; have aE := L.aE; have zE := L.zE; have tU := L.tU; have aU := L.aU; have zU := L.zU; have vU := L.vU
 simp only [stb_ren] at t0 a0 z0 v0 t3 a3 z3 v3 t4 a4 z4 v4 t22 a22 z22 v22 t25 a25 z25 v25
 have u22 := run_underlying t22
 have EE : Aside _ := E
 have hs2 := E.hsz
 have eg := E.eg
 clear E
 have hbs : b ≤ size := by rw [← hl, hb]; simp; omega
 obtain ⟨D, hD⟩ : ∃ D, (X ++ ([x] ++ (B ++ Z))).toArray = D := ⟨_, rfl⟩
 have hds : D.size = size := by rw [← hD, List.size_toArray]; exact hl
 have gx : D[a]! = x := by rw [← hD, ha]; exact get_at _ _ _
 have gB : ∀ q, q < B.length → D[mm + q]! = B[q]! := fun q hq => by
  rw [← hD, show X ++ ([x] ++ (B ++ Z)) = (X ++ [x]) ++ (B ++ Z) by simp, hmm, show X.length + 1 = (X ++ [x]).length by simp]
  exact get_mid _ _ _ q hq
 have HSR : Hid (∀ q r, mm ≤ q → q ≤ r → r < b → key D[q]! ≤ key D[r]!) := Lib.hid fun q r h1 h2 h3 => by
  obtain ⟨q', rfl⟩ : ∃ q', q = mm + q' := ⟨q - mm, by omega⟩
  obtain ⟨r', rfl⟩ : ∃ r', r = mm + r' := ⟨r - mm, by omega⟩
  have hr : r' < B.length := by omega
  rw [gB q' (by omega), gB r' hr]
  rcases Nat.lt_or_ge q' r' with h | h
  ·have := List.pairwise_iff_getElem.1 hB q' r' (by omega) hr h
   rw [getElem!_pos B q' (by omega), getElem!_pos B r' hr]; exact this
  ·obtain rfl : q' = r' := by omega
   exact Int.le_refl _
 have HG : Hid (∀ i, mm ≤ i → i ≤ b → (∀ q, mm ≤ q → q < i → key D[q]! < key x) → (∀ q, i ≤ q → q < b → key x ≤ key D[q]!) → upF D a (i - mm) = (X ++ (sortK key ([x] ++ B) ++ Z)).toArray) := Lib.hid fun i h1 h2 h3 h4 => by
  have e1 : B = B.take (i - mm) ++ B.drop (i - mm) := (List.take_append_drop _ _).symm
  have l1 : (B.take (i - mm)).length = i - mm := by rw [List.length_take]; omega
  have k1 : ∀ y ∈ B.take (i - mm), key y < key x := fun y hy => by
   obtain ⟨q, hq, rfl⟩ := List.mem_iff_getElem.1 hy
   rw [List.getElem_take]
   have := h3 (mm + q) (by omega) (by omega)
   rwa [gB q (by omega), getElem!_pos B q (by omega)] at this
  have k2 : ∀ y ∈ B.drop (i - mm), key x ≤ key y := fun y hy => by
   obtain ⟨q, hq, rfl⟩ := List.mem_iff_getElem.1 hy
   rw [List.getElem_drop]
   rw [List.length_drop] at hq
   have := h4 (mm + (i - mm + q)) (by omega) (by omega)
   rwa [gB (i - mm + q) (by omega), getElem!_pos B (i - mm + q) (by omega)] at this
  rw [← hD, ha]
  generalize B.take (i - mm) = B1 at *
  generalize B.drop (i - mm) = B2 at *
  subst e1
  rw [← sortK_first hB k1 k2, ← l1, show X ++ ([x] ++ (B1 ++ B2 ++ Z)) = X ++ x :: (B1 ++ (B2 ++ Z)) by simp, upF_all]
  congr 1
  simp
 rw [hD]
 have HX := Lib.hid (⟨gx, hds⟩ : D[a]! = x ∧ D.size = size)
 have ham : mm = a + 1 := by omega
 have hmb : mm ≤ b := by omega
 have d1 : (mm : Int) - (a : Int) = 1 := by omega
 obtain ⟨F, hF⟩ : ∃ F, (X ++ (sortK key ([x] ++ B) ++ Z)).toArray = F := ⟨_, rfl⟩
 rw [hF] at HG ⊢
 have HAM := Lib.hid ham
 clear hl hB hD gx gB ha hmm hb hF ham
 go_enter L.fM, Tryz.ntmps125
 go_wp2
 go_loopg [10, 11] (b - mm) (fun g1 vi vj wr => ∃ (i j m2 : Nat) (os2 : Array Obj), vi = .int .i64 i ∧ vj = .int .i64 j ∧ mm ≤ i ∧ i ≤ j ∧ j ≤ b ∧ j - i ≤ g1 ∧ wr = sortWorldK enc k w blk off m2 D os2 ∧ Hid ((∀ q, mm ≤ q → q < i → key D[q]! < key x) ∧ (∀ q, j ≤ q → q < b → key x ≤ key D[q]!)))
 case atStart => exact ⟨mm, b, m, os, rfl, rfl, Nat.le_refl _, hmb, Nat.le_refl _, Nat.le_refl _, rfl, ⟨fun q h1 h2 => by omega, fun q h1 h2 => by omega⟩⟩
 case round =>
  obtain ⟨i, j, m2, os2, rfl, rfl, hmi, hij, hjb, hgk, rfl, HI⟩ := hrel
  by_cases hlt : i < j
  ·have hltz : (i : Int) < (j : Int) := by omega
   obtain ⟨h, hh⟩ : ∃ h, h = (i + j) / 2 := ⟨_, rfl⟩
   obtain ⟨s, hs⟩ : ∃ s, s = i + j := ⟨_, rfl⟩
   have s1 : (i : Int) + (j : Int) = (s : Int) := by omega
   have s2 : IntKind.i64.wrap (s : Int) = (s : Int) := by rw [IntKind.wrap_i64]; omega
   have hme2 : (s : Int) / 2 = (h : Int) := by omega
   have hz2 : IntKind.i64.wrap (h : Int) = (h : Int) := by rw [IntKind.wrap_i64]; omega
   have hz0 : (h : Int) < (size : Int) := by omega
   have az0 : (a : Int) < (size : Int) := by have := HAM.out; omega
   have HH := Lib.hid (⟨by omega, by omega, by omega⟩ : i ≤ h ∧ h < j ∧ h + 1 < 4611686018427387904)
   have hz3 : IntKind.i64.wrap ((h : Int) + 1) = (h : Int) + 1 := by rw [IntKind.wrap_i64]; have := HH.out; omega
   obtain ⟨W, cP, cQ, c, hW, lp, lq, hcg, CLS, lcP, lcQ, hc⟩ := stb_cmp EE.out m2 D os2 HX.out.2 h a (by omega) (by have := HAM.out; omega)
   have HC : Hid ((c < 0 → ∀ q, mm ≤ q → q < h + 1 → key D[q]! < key x) ∧ (¬ c < 0 → ∀ q, h ≤ q → q < b → key x ≤ key D[q]!)) := Lib.hid ⟨fun hc0 q h1 h2 => by
    have h3 := hc.out.1 hc0
    rw [HX.out.1] at h3
    have := HSR.out q h h1 (by omega) (by omega)
    omega, fun hc0 q h1 h2 => by
    have h3 : ¬ key D[h]! < key D[a]! := fun h4 => hc0 (hc.out.2 h4)
    rw [HX.out.1] at h3
    have := HSR.out h q (by omega) h1 h2
    omega⟩
   have HGK := Lib.hid hgk
   rw [hW]
   clear hh hs hc hW hgk
   by_cases hlv : c < 0
   ·have HN := Lib.hid (HC.out.1 hlv)
    clear HC
    go_wp2_with fail
    go_quiet_grown (first | (go_at_fn g; refine Calls.grown_of (hcg _ _)))
    go_wp2
    obtain ⟨m3, os3, hw3⟩ := CLS.out nq osq
    go_roundg (j - (h + 1))
    case measure => have := HGK.out; have := HH.out; omega
    case rel => exact ⟨h + 1, j, m3, os3, by go_num, rfl, by have := HH.out; omega, by have := HH.out; omega, hjb, Nat.le_refl _, hw3, ⟨HN.out, HI.out.2⟩⟩
   ·have HN := Lib.hid (HC.out.2 hlv)
    clear HC
    go_wp2_with fail
    go_quiet_grown (first | (go_at_fn g; refine Calls.grown_of (hcg _ _)))
    go_wp2
    obtain ⟨m3, os3, hw3⟩ := CLS.out nq osq
    go_roundg (h - i)
    case measure => have := HGK.out; have := HH.out; omega
    case rel => exact ⟨i, h, m3, os3, rfl, by first | rfl | go_num, hmi, by have := HH.out; omega, by have := HH.out; omega, Nat.le_refl _, hw3, ⟨HI.out.1, HN.out⟩⟩
  ·have hltz : ¬ (i : Int) < (j : Int) := by omega
   obtain rfl : i = j := by omega
   have HGF := Lib.hid (HG.out i hmi hjb HI.out.1 HI.out.2)
   have ham := HAM.out
   obtain ⟨T, hT⟩ : ∃ T, i = mm + T := ⟨i - mm, by omega⟩
   obtain ⟨ip, hip⟩ : ∃ ip, ip = a + T := ⟨_, rfl⟩
   have iz1 : (i : Int) - 1 = (ip : Int) := by omega
   have iz2 : IntKind.i64.wrap (ip : Int) = (ip : Int) := by rw [IntKind.wrap_i64]; omega
   have HT := Lib.hid (⟨by rw [hT]; omega, hip, by omega⟩ : i - mm = T ∧ ip = a + T ∧ a + T + 1 ≤ b)
   clear HI HG HSR hgk hij hmi hjb hT hip ham
   go_wp2
   go_loopg [13] T (fun g1 vk wr => ∃ (t m3 : Nat) (os3 : Array Obj), vk = .int .i64 ((a + t : Nat) : Int) ∧ t ≤ T ∧ T - t ≤ g1 ∧ wr = sortWorldK enc k w blk off m3 (upF D a t) os3)
   case atStart => exact ⟨0, m2, os2, by first | rfl | go_num, Nat.zero_le _, by omega, rfl⟩
   case round =>
    obtain ⟨t, m3, os3, rfl, htT, hg1, rfl⟩ := hrel
    by_cases htl : t < T
    ·obtain ⟨p, hp⟩ : ∃ p, p = a + t := ⟨_, rfl⟩
     obtain ⟨q, hq⟩ : ∃ q, q = p + 1 := ⟨_, rfl⟩
     rw [← hp]
     have pz : (p : Int) < (ip : Int) := by have := HT.out; omega
     have qz : (p : Int) + 1 = (q : Int) := by omega
     have qw : IntKind.i64.wrap (q : Int) = (q : Int) := by rw [IntKind.wrap_i64]; have := HT.out; omega
     have pl : (p : Int) < (size : Int) := by have := HT.out; omega
     have ql : (q : Int) < (size : Int) := by have := HT.out; omega
     obtain ⟨W, cP, cQ, hW, lp, lq, s1, s2, lcP, lcQ, HF⟩ := stb_swap EE.out m3 (upF D a t) os3 (by rw [upF_size]; exact HX.out.2) p q (by omega) (by omega)
     have HN : Hid (swp (upF D a t) p q = upF D a (t + 1)) := Lib.hid (by rw [hq, hp]; rfl)
     have HPQ := Lib.hid (⟨by omega, by omega, by omega⟩ : q = a + (t + 1) ∧ t + 1 ≤ T ∧ T - (t + 1) < gk)
     rw [hW]
     clear hp hq hW hg1 htl
     go_wp2_with fail
     go_big_region_o
     all_goals go_wp2
     go_roundg (T - (t + 1))
     case measure => exact HPQ.out.2.2
     case rel =>
      obtain ⟨m', hm'⟩ := HF.out
      rw [HN.out] at hm'
      exact ⟨t + 1, m', os3, by rw [← HPQ.out.1], HPQ.out.2.1, Nat.le_refl _, hm'⟩
    ·obtain rfl : t = T := by omega
     have pz : ¬ ((a + t : Nat) : Int) < (ip : Int) := by have := HT.out; omega
     obtain ⟨p, hp⟩ : ∃ p, p = a + t := ⟨_, rfl⟩
     rw [← hp] at pz ⊢
     go_wp2
     refine bodyPost_ret (results_none rfl _ _ _) rfl ?_
     exact ⟨rfl, m3, os3, by rw [← HGF.out, HT.out.1]⟩
variable {α : Type} [Inhabited α] {P : Program} {k : Nat} {enc : α → List Value} {key : α → Int} {cf : α → α → Int} {g : Nat} {cb : Array Value} {blk off size : Nat} {w : World}
set_option maxHeartbeats 4000000 in
set_option maxRecDepth 1000000 in
theorem sym_last (L : StbLay P k) (E : StbEnv P k enc key cf g cb blk off size w) (cap : Nat) (X A : List α) (x : α) (Z : List α) (hA : Srt key A) (hA2 : 2 ≤ A.length) (hl : (X ++ (A ++ ([x] ++ Z))).length = size) (a mm b : Nat) (ha : a = X.length) (hmm : mm = X.length + A.length) (hb : b = X.length + A.length + 1) (m : Nat) (os : Array Obj) :
 Calls P 125 #[.slice (some ⟨blk, off, none⟩) size cap, .int .i64 a, .int .i64 mm, .int .i64 b, .func (.func g) #[] cb] (sortWorldK enc k w blk off m (X ++ (A ++ ([x] ++ Z))).toArray os) fun e w' =>
  e = .returned (.tuple #[]) ∧ ∃ m' os', w' = sortWorldK enc k w blk off m' (X ++ (sortK key (A ++ [x]) ++ Z)).toArray os' := by
 have mixed := L.ins.mixed; have t0 := L.ins.t0; have a0 := L.ins.a0; have z0 := L.ins.z0; have v0 := L.ins.v0; have t3 := L.ins.t3; have a3 := L.ins.a3; have z3 := L.ins.z3; have v3 := L.ins.v3; have t4 := L.ins.t4; have a4 := L.ins.a4; have z4 := L.ins.z4; have v4 := L.ins.v4; have t22 := L.ins.t22; have a22 := L.ins.a22; have z22 := L.ins.z22; have v22 := L.ins.v22; have t25 := L.ins.t25; have a25 := L.ins.a25; have z25 := L.ins.z25; have v25 := L.ins.v25; have aE := L.aE; have zE := L.zE; have tU := L.tU; have aU := L.aU; have zU := L.zU; have vU := L.vU
 simp only [stb_ren] at t0 a0 z0 v0 t3 a3 z3 v3 t4 a4 z4 v4 t22 a22 z22 v22 t25 a25 z25 v25
 have u22 := run_underlying t22
 have EE : Aside _ := E
 have hs2 := E.hsz
 have eg := E.eg
 clear E
 have hbs : b ≤ size := by rw [← hl, hb]; simp; omega
 obtain ⟨D, hD⟩ : ∃ D, (X ++ (A ++ ([x] ++ Z))).toArray = D := ⟨_, rfl⟩
 have hds : D.size = size := by rw [← hD, List.size_toArray]; exact hl
 have gx : D[mm]! = x := by
  rw [← hD, hmm, ← List.length_append, show X ++ (A ++ ([x] ++ Z)) = (X ++ A) ++ x :: Z by simp]
  exact get_at _ _ _
 have gA : ∀ q, q < A.length → D[a + q]! = A[q]! := fun q hq => by
  rw [← hD, ha]
  exact get_mid _ _ _ q hq
 have HSR : Hid (∀ q r, a ≤ q → q ≤ r → r < mm → key D[q]! ≤ key D[r]!) := Lib.hid fun q r h1 h2 h3 => by
  obtain ⟨q', rfl⟩ : ∃ q', q = a + q' := ⟨q - a, by omega⟩
  obtain ⟨r', rfl⟩ : ∃ r', r = a + r' := ⟨r - a, by omega⟩
  have hr : r' < A.length := by omega
  rw [gA q' (by omega), gA r' hr]
  rcases Nat.lt_or_ge q' r' with h | h
  ·have := List.pairwise_iff_getElem.1 hA q' r' (by omega) hr h
   rw [getElem!_pos A q' (by omega), getElem!_pos A r' hr]; exact this
  ·obtain rfl : q' = r' := by omega
   exact Int.le_refl _
 have HG : Hid (∀ i, a ≤ i → i ≤ mm → (∀ q, a ≤ q → q < i → key D[q]! ≤ key x) → (∀ q, i ≤ q → q < mm → key x < key D[q]!) → dnF D mm (mm - i) = (X ++ (sortK key (A ++ [x]) ++ Z)).toArray) := Lib.hid fun i h1 h2 h3 h4 => by
  have e1 : A = A.take (i - a) ++ A.drop (i - a) := (List.take_append_drop _ _).symm
  have l1 : (A.take (i - a)).length = i - a := by rw [List.length_take]; omega
  have l2 : (A.drop (i - a)).length = mm - i := by rw [List.length_drop]; omega
  have k1 : ∀ y ∈ A.take (i - a), key y ≤ key x := fun y hy => by
   obtain ⟨q, hq, rfl⟩ := List.mem_iff_getElem.1 hy
   rw [List.getElem_take]
   have := h3 (a + q) (by omega) (by omega)
   rwa [gA q (by omega), getElem!_pos A q (by omega)] at this
  have k2 : ∀ y ∈ A.drop (i - a), key x < key y := fun y hy => by
   obtain ⟨q, hq, rfl⟩ := List.mem_iff_getElem.1 hy
   rw [List.getElem_drop]
   rw [List.length_drop] at hq
   have := h4 (a + (i - a + q)) (by omega) (by omega)
   rwa [gA (i - a + q) (by omega), getElem!_pos A (i - a + q) (by omega)] at this
  rw [← hD, hmm]
  rw [hmm] at l2
  generalize A.take (i - a) = A1 at *
  generalize A.drop (i - a) = A2 at *
  subst e1
  rw [List.length_append] at l2 ⊢
  rw [← sortK_last hA k1 k2, ← l2, ← Nat.add_assoc, show X ++ (A1 ++ A2 ++ ([x] ++ Z)) = X ++ (A1 ++ (A2 ++ x :: Z)) by simp, dnF_is X x Z _ A1 A2 rfl]
  congr 1
  simp
 rw [hD]
 have HX := Lib.hid (⟨gx, hds⟩ : D[mm]! = x ∧ D.size = size)
 have ham : a + 2 ≤ mm ∧ b = mm + 1 := by omega
 obtain ⟨la, hla⟩ : ∃ la, la = mm - a := ⟨_, rfl⟩
 have d1 : (mm : Int) - (a : Int) = (la : Int) := by omega
 have d2 : (b : Int) - (mm : Int) = 1 := by omega
 have d3 : ((la : Int) == 1) = false := by
  have : (la : Int) ≠ 1 := by omega
  simpa using this
 have law : IntKind.i64.wrap (la : Int) = (la : Int) := by rw [IntKind.wrap_i64]; omega
 have mz0 : (mm : Int) < (size : Int) := by omega
 have mz1 : mm < size := by omega
 obtain ⟨F, hF⟩ : ∃ F, (X ++ (sortK key (A ++ [x]) ++ Z)).toArray = F := ⟨_, rfl⟩
 rw [hF] at HG ⊢
 have HAM := Lib.hid ham
 clear hl hA hA2 hD gx gA ha hmm hb hF ham hla
 go_enter L.fM, Tryz.ntmps125
 go_wp2
 go_loopg [14, 15] (mm - a) (fun g1 vi vj wr => ∃ (i j m2 : Nat) (os2 : Array Obj), vi = .int .i64 i ∧ vj = .int .i64 j ∧ a ≤ i ∧ i ≤ j ∧ j ≤ mm ∧ j - i ≤ g1 ∧ wr = sortWorldK enc k w blk off m2 D os2 ∧ Hid ((∀ q, a ≤ q → q < i → key D[q]! ≤ key x) ∧ (∀ q, j ≤ q → q < mm → key x < key D[q]!)))
 case atStart => exact ⟨a, mm, m, os, rfl, rfl, Nat.le_refl _, by have := HAM.out; omega, Nat.le_refl _, Nat.le_refl _, rfl, ⟨fun q h1 h2 => by omega, fun q h1 h2 => by omega⟩⟩
 case round =>
  obtain ⟨i, j, m2, os2, rfl, rfl, hmi, hij, hjb, hgk, rfl, HI⟩ := hrel
  by_cases hlt : i < j
  ·have hltz : (i : Int) < (j : Int) := by omega
   obtain ⟨h, hh⟩ : ∃ h, h = (i + j) / 2 := ⟨_, rfl⟩
   obtain ⟨s, hs⟩ : ∃ s, s = i + j := ⟨_, rfl⟩
   have s1 : (i : Int) + (j : Int) = (s : Int) := by omega
   have s2 : IntKind.i64.wrap (s : Int) = (s : Int) := by rw [IntKind.wrap_i64]; omega
   have hme2 : (s : Int) / 2 = (h : Int) := by omega
   have hz2 : IntKind.i64.wrap (h : Int) = (h : Int) := by rw [IntKind.wrap_i64]; omega
   have hz0 : (h : Int) < (size : Int) := by omega
   have HH := Lib.hid (⟨by omega, by omega, by omega⟩ : i ≤ h ∧ h < j ∧ h + 1 < 4611686018427387904)
   have hz3 : IntKind.i64.wrap ((h : Int) + 1) = (h : Int) + 1 := by rw [IntKind.wrap_i64]; have := HH.out; omega
   obtain ⟨W, cP, cQ, c, hW, lp, lq, hcg, CLS, lcP, lcQ, hc⟩ := stb_cmp EE.out m2 D os2 HX.out.2 mm h (by omega) (by omega)
   have HC : Hid ((c < 0 → ∀ q, h ≤ q → q < mm → key x < key D[q]!) ∧ (¬ c < 0 → ∀ q, a ≤ q → q < h + 1 → key D[q]! ≤ key x)) := Lib.hid ⟨fun hc0 q h1 h2 => by
    have h3 := hc.out.1 hc0
    rw [HX.out.1] at h3
    have := HSR.out h q (by omega) h1 h2
    omega, fun hc0 q h1 h2 => by
    have h3 : ¬ key D[mm]! < key D[h]! := fun h4 => hc0 (hc.out.2 h4)
    rw [HX.out.1] at h3
    have := HSR.out q h h1 (by omega) (by omega)
    omega⟩
   have HGK := Lib.hid hgk
   rw [hW]
   clear hh hs hc hW hgk
   by_cases hlv : c < 0
   ·have HN := Lib.hid (HC.out.1 hlv)
    clear HC
    go_wp2_with fail
    go_quiet_grown (first | (go_at_fn g; refine Calls.grown_of (hcg _ _)))
    go_wp2
    obtain ⟨m3, os3, hw3⟩ := CLS.out nq osq
    go_roundg (h - i)
    case measure => have := HGK.out; have := HH.out; omega
    case rel => exact ⟨i, h, m3, os3, rfl, by first | rfl | go_num, hmi, by have := HH.out; omega, by have := HH.out; omega, Nat.le_refl _, hw3, ⟨HI.out.1, HN.out⟩⟩
   ·have HN := Lib.hid (HC.out.2 hlv)
    have hlb : decide (c < 0) = false := decide_eq_false hlv
    clear HC hlv
    go_wp2_with fail
    go_quiet_grown (first | (go_at_fn g; refine Calls.grown_of (hcg _ _)))
    go_wp2
    obtain ⟨m3, os3, hw3⟩ := CLS.out nq osq
    go_roundg (j - (h + 1))
    case measure => have := HGK.out; have := HH.out; omega
    case rel => exact ⟨h + 1, j, m3, os3, by go_num, rfl, by have := HH.out; omega, by have := HH.out; omega, hjb, Nat.le_refl _, hw3, ⟨HN.out, HI.out.2⟩⟩
  ·have hltz : ¬ (i : Int) < (j : Int) := by omega
   obtain rfl : i = j := by omega
   have HGF := Lib.hid (HG.out i hmi hjb HI.out.1 HI.out.2)
   obtain ⟨T, hT⟩ : ∃ T, mm = i + T := ⟨mm - i, by omega⟩
   have HT := Lib.hid (⟨by omega, hT⟩ : mm - i = T ∧ mm = i + T)
   clear HI HG HSR hgk hij hmi hjb hT
   go_wp2
   go_loopg [17] T (fun g1 vk wr => ∃ (t kk m3 : Nat) (os3 : Array Obj), vk = .int .i64 kk ∧ kk = mm - t ∧ t ≤ T ∧ T - t ≤ g1 ∧ wr = sortWorldK enc k w blk off m3 (dnF D mm t) os3)
   case atStart => exact ⟨0, mm, m2, os2, by first | rfl | go_num, by omega, Nat.zero_le _, by omega, rfl⟩
   case round =>
    obtain ⟨t, p, m3, os3, rfl, hpt, htT, hg1, rfl⟩ := hrel
    by_cases htl : t < T
    ·obtain ⟨q, hq⟩ : ∃ q, q = p - 1 := ⟨_, rfl⟩
     have pz : (i : Int) < (p : Int) := by have := HT.out; omega
     have qz : (p : Int) - 1 = (q : Int) := by have := HT.out; omega
     have qw : IntKind.i64.wrap (q : Int) = (q : Int) := by rw [IntKind.wrap_i64]; have := HT.out; omega
     have pl : (p : Int) < (size : Int) := by have := HT.out; omega
     have ql : (q : Int) < (size : Int) := by have := HT.out; omega
     obtain ⟨W, cP, cQ, hW, lp, lq, s1, s2, lcP, lcQ, HF⟩ := stb_swap EE.out m3 (dnF D mm t) os3 (by rw [dnF_size]; exact HX.out.2) p q (by omega) (by omega)
     have HN : Hid (swp (dnF D mm t) p q = dnF D mm (t + 1)) := Lib.hid (by rw [hq, hpt]; rfl)
     have HPQ := Lib.hid (⟨by omega, by omega, by omega⟩ : q = mm - (t + 1) ∧ t + 1 ≤ T ∧ T - (t + 1) < gk)
     rw [hW]
     clear hq hW hg1 htl hpt
     go_wp2_with fail
     go_big_region_o
     all_goals go_wp2
     go_roundg (T - (t + 1))
     case measure => exact HPQ.out.2.2
     case rel =>
      obtain ⟨m', hm'⟩ := HF.out
      rw [HN.out] at hm'
      exact ⟨t + 1, q, m', os3, by first | rfl | go_num, HPQ.out.1, HPQ.out.2.1, Nat.le_refl _, hm'⟩
    ·obtain rfl : t = T := by omega
     have pz : ¬ (i : Int) < (p : Int) := by have := HT.out; omega
     clear hpt
     go_wp2
     refine bodyPost_ret (results_none rfl _ _ _) rfl ?_
     exact ⟨rfl, m3, os3, by rw [← HGF.out, HT.out.1]⟩
end Go.Proofs.YtpfbfhigelbfcaaGreat

