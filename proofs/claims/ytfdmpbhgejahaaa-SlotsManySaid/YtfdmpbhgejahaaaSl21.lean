/- The walk of the reference's Put -/
import Derived.Test.YtfdmpbhgejahaaaSl5
import Derived.Test.YtfdmpbhgejahaaaSl7
import Derived.Deep.Cut
set_option linter.unusedSimpArgs false
set_option linter.unusedVariables false
namespace Go.Proofs.Ytfdmpbhgejahaaa
set_option linter.unusedVariables false
open Go.RowKit Go.Lib

theorem dput_split {A B : List (List Int)} {d : List Int} (h : ∀ x ∈ A, dlt x d = true) : dput (A ++ B) d = A ++ dput B d := by
  induction A with
  | nil => rfl
  | cons a A ih =>
    rw [List.cons_append, dput, if_pos (h a (by simp)), ih (fun x hx => h x (by simp [hx]))]
    rfl
/-- how far Put has come -/
def putInv (L : List (List Int)) (d : List Int) (fl : Bool) (O : List (List Int)) (k : Nat) : Prop :=
  O.length ≤ k + 1 ∧ if fl then O ++ L.drop k = dput L d else O = L.take k ∧ ∀ x ∈ L.take k, dlt x d = true
theorem putInv_start (L : List (List Int)) (d : List Int) : putInv L d false [] 0 := ⟨by simp, by simp⟩
theorem getD_drop {L : List (List Int)} {k : Nat} (hk : k < L.length) : L.drop k = L.getD k [] :: L.drop (k + 1) := by
  rw [List.drop_eq_getElem_cons hk]
  congr 1
  simp [List.getD_eq_getElem?_getD, hk]
theorem getD_take {L : List (List Int)} {k : Nat} (hk : k < L.length) : L.take (k + 1) = L.take k ++ [L.getD k []] := by
  rw [List.take_succ_eq_append_getElem hk]
  congr 2
  simp [List.getD_eq_getElem?_getD, hk]
theorem putInv_in {L O : List (List Int)} {d : List Int} {k : Nat} (hk : k < L.length) (h : putInv L d true O k) : putInv L d true (O ++ [L.getD k []]) (k + 1) := by
  obtain ⟨h1, h2⟩ := h
  refine ⟨by simp; omega, ?_⟩
  simp only [if_true] at h2 ⊢
  rw [List.append_assoc, List.singleton_append, ← getD_drop hk]
  exact h2
theorem putInv_less {L O : List (List Int)} {d : List Int} {k : Nat} (hk : k < L.length) (h : putInv L d false O k) (hx : dlt (L.getD k []) d = true) : putInv L d false (O ++ [L.getD k []]) (k + 1) := by
  obtain ⟨h1, h2⟩ := h
  refine ⟨by simp; omega, ?_⟩
  simp only [Bool.false_eq_true, if_false] at h2 ⊢
  obtain ⟨rfl, h3⟩ := h2
  refine ⟨(getD_take hk).symm, fun x hm => ?_⟩
  rw [getD_take hk] at hm
  rcases List.mem_append.1 hm with hm | hm
  · exact h3 x hm
  · rw [List.mem_singleton] at hm
    rw [hm]; exact hx
theorem putInv_same {L O : List (List Int)} {d : List Int} {k : Nat} (hk : k < L.length) (h : putInv L d false O k) (hx : L.getD k [] = d) : putInv L d true (O ++ [L.getD k []]) (k + 1) := by
  obtain ⟨h1, h2⟩ := h
  refine ⟨by simp; omega, ?_⟩
  simp only [Bool.false_eq_true, if_false, if_true] at h2 ⊢
  obtain ⟨rfl, h3⟩ := h2
  have e : L = L.take k ++ L.drop k := (List.take_append_drop k L).symm
  conv => rhs; rw [e, dput_split h3, getD_drop hk, hx, dput, if_neg (by rw [dlt_self]; simp), if_pos rfl]
  rw [hx, List.append_assoc]; rfl
theorem putInv_more {L O : List (List Int)} {d : List Int} {k : Nat} (hk : k < L.length) (h : putInv L d false O k) (hx : dlt (L.getD k []) d = false) (hne : L.getD k [] ≠ d) : putInv L d true ((O ++ [d]) ++ [L.getD k []]) (k + 1) := by
  obtain ⟨h1, h2⟩ := h
  simp only [Bool.false_eq_true, if_false] at h2
  obtain ⟨rfl, h3⟩ := h2
  refine ⟨by simp; omega, ?_⟩
  simp only [if_true]
  have e : L = L.take k ++ L.drop k := (List.take_append_drop k L).symm
  conv => rhs; rw [e, dput_split h3, getD_drop hk, dput, if_neg (by rw [hx]; simp), if_neg hne]
  simp
theorem putInv_end_in {L O : List (List Int)} {d : List Int} (h : putInv L d true O L.length) : O = dput L d := by
  obtain ⟨h1, h2⟩ := h
  simpa using h2
theorem putInv_end {L O : List (List Int)} {d : List Int} (h : putInv L d false O L.length) : O ++ [d] = dput L d := by
  obtain ⟨h1, h2⟩ := h
  simp only [Bool.false_eq_true, if_false, List.take_length] at h2
  obtain ⟨rfl, h3⟩ := h2
  have := dput_split (B := []) h3
  rw [List.append_nil] at this
  rw [this]; rfl

theorem od_step {w W W' : World} {v : Value} {O : List (List Int)} {d : List Int} (ho : Od W (w.heap.size + 1) v O) (hy : Yw W w.heap.size 30 d) (hb : Below w.heap.size w W) (hg : W.grownBy W' v.ownBlock) :
    Below w.heap.size w W' ∧ Yw W' w.heap.size 30 d := by
  refine ⟨hb.grown hg hb.size (fun j hj => by have := (ho.2.lt j hj).1; omega), hy.keep (hg.block _ hy.lt (fun e => ?_))⟩
  have := (ho.2.lt _ e.symm).1
  omega

set_option maxRecDepth 100000 in
set_option maxHeartbeats 2000000 in
theorem rput_any (p : Option Addr) (n cap : Nat) (L : List (List Int)) (d : List Int) (w : World) (h : Ds w p n L) (hd : dok d) (hn : n ≤ 1048576) :
    Calls Try.prog 43 #[.slice p n cap, .agg (bcs d)] w fun e w' => ∃ v, e = .returned v ∧ Od w' (w.heap.size + 1) v (dput L d) ∧ Below w.heap.size w w' := by
  have H := Lib.hid h
  have HOKd := Lib.hid hd
  have HL := Lib.hid h.1
  have HB0 : Hid (Below w.heap.size w (w.alloc (.cells (bcs d) 30))) := Lib.hid ((Below.refl _ _).alloc (Nat.le_refl _) _)
  have HY0 : Hid (Yw (w.alloc (.cells (bcs d) 30)) w.heap.size 30 d) := Lib.hid (heap_alloc_new _ _)
  have HO0 : Hid (Od (w.alloc (.cells (bcs d) 30)) (w.heap.size + 1) (.slice none 0 0) []) := Lib.hid (Od.nil _ _)
  have HI0 := Lib.hid (putInv_start L d)
  have HSZ1 : Hid (∀ W, Below w.heap.size w W → Yw W w.heap.size 30 d → w.heap.size + 1 ≤ W.heap.size) := Lib.hid fun W _ h => h.lt
  have HID : Hid ((Try.prog.info? 30).map (·.size) = some (d.map (Value.int .u8)).length) := Lib.hid (by rw [List.length_map, hd.1]; exact size32)
  have HZD : Hid ((Try.prog.info? 30).map (·.size) = some (bcs d).size) := Lib.hid (by rw [bcs_size, hd.1]; exact size32)
  have HLEN : Hid (∀ m : Nat, m ≤ 1048580 → (m + 1) * 32 ≤ 140737488355328) := Lib.hid fun m hm => by omega
  have HPC1 : Hid (∀ g : Nat, (some (⟨g, 0, none⟩ : Addr)) = none → 1 = 0) := Lib.hid (by simp)
  clear h hd
  go_enter Try.func43, Try.ntmps43
  go_wp2
  generalize w.alloc (.cells (bcs d) 30) = w0 at *
  go_loopw [5, 6, 7] (fun v f i wr => ∃ (k : Nat) (fl : Bool) (O : List (List Int)) (q : Nat) (p' : Option Addr) (c' : Nat), k ≤ n ∧ i = .int .i64 (k : Int) ∧ f = .bool fl ∧ v = .slice p' q c' ∧ Hid (Od wr (w.heap.size + 1) (.slice p' q c') O) ∧ Hid (putInv L d fl O k) ∧ Hid (Yw wr w.heap.size 30 d) ∧ Hid (Below w.heap.size w wr)) (fun _ _ i _ => n - (intOf i).toNat)
  case atStart => exact ⟨0, false, [], 0, none, 0, by omega, rfl, rfl, rfl, HO0, HI0, HY0, HB0⟩
  case round =>
    obtain ⟨k, fl, O, q, p1, c1, hk, rfl, rfl, rfl, ho, hi, hy, hb⟩ := hrel
    by_cases hlt : k < n
    · have hds := H.out.later hb.out
      have hpp : ∃ b off, p = some ⟨b, off, none⟩ := by
        rcases hds.2.2 with h0 | ⟨b, off, hp, _⟩
        · omega
        · exact ⟨b, off, hp⟩
      obtain ⟨b, off, rfl⟩ := hpp
      clear hds
      have HKL : Hid (k < L.length) := Lib.hid (by rw [HL.out]; exact hlt)
      have HOKx : Hid (dok (L.getD k [])) := Lib.hid (H.out.ok k hlt)
      have HRX : Hid (∀ W, Below w.heap.size w W → W.rangeAt b (off + k * 32) ((L.getD k []).map (Value.int .u8))) := Lib.hid fun W hW => (H.out.later hW).range k hlt
      have HIX : Hid ((Try.prog.info? 30).map (·.size) = some ((L.getD k []).map (Value.int .u8)).length) := Lib.hid (by rw [List.length_map, HOKx.out.1]; exact size32)
      have HLO : Hid (O.length ≤ 1048578) := Lib.hid (by have := hi.out.1; omega)
      have HIIN : Hid (fl = true → putInv L d true (O ++ [L.getD k []]) (k + 1)) := Lib.hid fun e => putInv_in HKL.out (by have h := hi.out; rw [e] at h; exact h)
      have HILE : Hid (fl = false → dlt (L.getD k []) d = true → putInv L d false (O ++ [L.getD k []]) (k + 1)) := Lib.hid fun e => putInv_less HKL.out (by have h := hi.out; rw [e] at h; exact h)
      have HISA : Hid (fl = false → L.getD k [] = d → putInv L d true (O ++ [L.getD k []]) (k + 1)) := Lib.hid fun e => putInv_same HKL.out (by have h := hi.out; rw [e] at h; exact h)
      have HIMO : Hid (fl = false → dlt (L.getD k []) d = false → L.getD k [] ≠ d → putInv L d true ((O ++ [d]) ++ [L.getD k []]) (k + 1)) := Lib.hid fun e => putInv_more HKL.out (by have h := hi.out; rw [e] at h; exact h)
      generalize L.getD k [] = x at *
      clear hi HKL
      have HLX := Lib.hid HOKx.out.1
      cases fl
      · clear HIIN
        have hS0 : wr.rangeAt b (off + k * 32) (x.map (Value.int .u8)) ∧ wr.rangeAt w.heap.size 0 (d.map (Value.int .u8)) := ⟨HRX.out _ hb.out, hy.out.rangeAll⟩
        have hS1 : wr.drew.rangeAt b (off + k * 32) (x.map (Value.int .u8)) ∧ wr.drew.rangeAt w.heap.size 0 (d.map (Value.int .u8)) := ⟨HRX.out _ (hb.out.trans (Below.refl _ _).drew), (hy.out.later (Below.refl _ _).drew).rangeAll⟩
        have hU := Try.underlying30
        have hI1 := HIX.out
        have hI2 := HID.out
        go_wp2
        refine wp_region_held_drew (S := (fun W => W.rangeAt b (off + k * 32) (x.map (Value.int .u8)) ∧ W.rangeAt w.heap.size 0 (d.map (Value.int .u8)))) (by kernel_rfl) hS1 (fun hHeld => ?_)
        refine take_at 0 (v := ?vv1) rfl (by kernel_rfl) (by kernel_rfl) (by kernel_rfl) (fun _ _ _ h => h) (Or.inl ⟨by rfl, ?hy1⟩) (by assumption) ?rest1
        case hy1 => intro w hSw; (try dsimp only at hSw); go_simp; (try with_reducible rfl)
        (try simp only [Act.put, List.setIfInBounds_toArray, List.set_cons_zero, List.set_cons_succ])
        refine take_at 1 (v := ?vv2) rfl (by kernel_rfl) (by kernel_rfl) (by kernel_rfl) (fun _ _ _ h => h) (Or.inl ⟨by rfl, ?hy2⟩) (by assumption) ?rest2
        case hy2 => intro w hSw; (try dsimp only at hSw); go_simp; (try with_reducible rfl)
        (try simp only [Act.put, List.setIfInBounds_toArray, List.set_cons_zero, List.set_cons_succ])
        refine take_at 2 (v := ?vv3) rfl (by kernel_rfl) (by kernel_rfl) (by kernel_rfl) (fun _ _ _ h => h) (Or.inl ⟨by rfl, ?hy3⟩) (by assumption) ?rest3
        case hy3 => intro w hSw; (try dsimp only at hSw); go_simp; (try with_reducible rfl)
        (try simp only [Act.put, List.setIfInBounds_toArray, List.set_cons_zero, List.set_cons_succ])
        refine take_at 3 (v := ?vv4) rfl (by kernel_rfl) (by kernel_rfl) (by kernel_rfl) (fun _ _ _ h => h) (Or.inl ⟨by rfl, ?hy4⟩) (by assumption) ?rest4
        case hy4 => intro w hSw; (try dsimp only at hSw); go_simp; (try with_reducible rfl)
        (try simp only [Act.put, List.setIfInBounds_toArray, List.set_cons_zero, List.set_cons_succ])
        refine take_at 4 (v := ?vv5) rfl (by kernel_rfl) (by kernel_rfl) (by kernel_rfl) (fun _ _ _ h => h) (Or.inl ⟨by rfl, ?hy5⟩) (by assumption) ?rest5
        case hy5 => intro w hSw; (try dsimp only at hSw); go_simp; (try with_reducible rfl)
        (try simp only [Act.put, List.setIfInBounds_toArray, List.set_cons_zero, List.set_cons_succ])
        refine take_at 5 (v := ?vv6) rfl (by kernel_rfl) (by kernel_rfl) (by kernel_rfl) (fun _ _ _ h => h) (Or.inl ⟨by rfl, ?hy6⟩) (by assumption) ?rest6
        case hy6 => intro w hSw; (try dsimp only at hSw); go_simp; (try with_reducible rfl)
        (try simp only [Act.put, List.setIfInBounds_toArray, List.set_cons_zero, List.set_cons_succ])
        refine take_at 6 rfl (by kernel_rfl) (by kernel_rfl) (by kernel_rfl) (fun _ _ _ h => h) (yieldsIf_load_mid (by rfl) _ _ rfl _ _ rfl _ _ (fun _ h => h.1) hU rfl hI1) (by assumption) ?_
        (try simp only [Act.put, List.setIfInBounds_toArray, List.set_cons_zero, List.set_cons_succ])
        refine take_at 7 rfl (by kernel_rfl) (by kernel_rfl) (by kernel_rfl) (fun _ _ _ h => h) (yieldsIf_load_mid (by rfl) _ _ rfl _ _ rfl _ _ (fun _ h => h.2) hU rfl hI2) (by assumption) ?_
        (try simp only [Act.put, List.setIfInBounds_toArray, List.set_cons_zero, List.set_cons_succ])
        refine ready_at 8 rfl (by kernel_rfl) (fun K hK => ?_)
        go_simp
        go_at_call 50
        refine (rless_any x d _ HOKx.out HOKd.out).mono ?_
        rintro e w3 ⟨rfl, hb3⟩
        have HB3 := Lib.hid (below_step (hb.out.trans (Below.refl _ _).drew) hb3)
        have HY3 := Lib.hid ((hy.out.later (Below.refl _ _).drew).later hb3)
        have HO3 := Lib.hid ((ho.out.later (Below.refl _ _).drew).later hb3)
        have hS3 : w3.rangeAt b (off + k * 32) (x.map (Value.int .u8)) ∧ w3.rangeAt w.heap.size 0 (d.map (Value.int .u8)) := ⟨HRX.out _ HB3.out, HY3.out.rangeAll⟩
        clear hb3
        first
          | refine hK.out _ _ ?hS7 (fun hHeld => ?rest7)
          | (go_wp2_with fail; refine hK.out _ _ ?hS7 (fun hHeld => ?rest7))
        case hS7 => (try dsimp only); exact hS3
        clear hK K
        (try simp only [Act.put, List.setIfInBounds_toArray, List.set_cons_zero, List.set_cons_succ])
        refine take_at 9 (v := ?vv8) rfl (by kernel_rfl) (by kernel_rfl) (by kernel_rfl) (fun _ _ _ h => h) (Or.inl ⟨by rfl, ?hy8⟩) (by assumption) ?rest8
        case hy8 => intro w hSw; (try dsimp only at hSw); go_simp; (try with_reducible rfl)
        (try simp only [Act.put, List.setIfInBounds_toArray, List.set_cons_zero, List.set_cons_succ])
        refine take_at 10 (v := ?vv9) rfl (by kernel_rfl) (by kernel_rfl) (by kernel_rfl) (fun _ _ _ h => h) (Or.inl ⟨by rfl, ?hy9⟩) (by assumption) ?rest9
        case hy9 => intro w hSw; (try dsimp only at hSw); go_simp; (try with_reducible rfl)
        (try simp only [Act.put, List.setIfInBounds_toArray, List.set_cons_zero, List.set_cons_succ])
        refine wpAnyH_done (by kernel_rfl) ?_ _
        clear hS0 hS1 hS3 hU hI1 hI2 ho hy hb
        generalize hdl : dlt x d = bb at *
        cases bb
        rotate_left
        · have HINV := Lib.hid (HILE.out (by first | trivial | rfl) (by first | trivial | rfl))
          clear HILE HISA HIMO
          have HOa := Lib.hid (HO3.out.alloc (.cells (bcs x) 30))
          have HBa := Lib.hid (HB3.out.alloc HB3.out.size (.cells (bcs x) 30))
          have HYa := Lib.hid (HY3.out.later ((Below.refl _ _).alloc (Nat.le_refl _) (.cells (bcs x) 30)))
          have HNa := Lib.hid (Od.one w3 (w.heap.size + 1) x HOKx.out (HSZ1.out _ HB3.out HY3.out)).ds
          have HSa := Lib.hid (HSZ1.out _ HBa.out HYa.out)
          have HMa := Lib.hid (HLEN.out O.length (by have := HLO.out; simp; omega))
          go_wp2_with (first
            | (refine wpList_load_mid rfl 30 _ rfl b (off + k * 32) rfl _ _ (HRX.out _ HB3.out) Try.underlying30 rfl HIX.out ?_)
            | (refine wpList_build_dig rfl 44 39 rfl Try.underlying44 info24 x HLX.out rfl ?_)
            | (refine wpList_append_digs rfl (.tmp 35) (.tmp 40) 44 rfl Try.underlying44 info24 (w.heap.size + 1) _ O rfl HOa.out _ 1 1 [x] rfl HNa.out (HPC1.out _) HMa.out HSa.out ?_; intro v5 w5 ho5 hg5; have HO5 := Lib.hid ho5; have HB5 := Lib.hid (od_step HOa.out HYa.out HBa.out hg5).1; have HY5 := Lib.hid (od_step HOa.out HYa.out HBa.out hg5).2; clear ho5 hg5))
          obtain ⟨p5, c5, hv5, _⟩ := HO5.out.open
          subst hv5
          exact ⟨⟨k + 1, false, O ++ [x], _, p5, c5, by omega, by go_num, rfl, rfl, HO5, HINV, HY5, HB5⟩, by simp [intOf] <;> omega⟩
        · clear HILE
          have HL1 : Hid (∀ W, (∃ m, W = w3.drewN m) → (Instr.loadAt 30 (.pointer (some ⟨b, off + k * 32, none⟩))).run Try.prog W = .ok (.agg (bcs x)) W) := Lib.hid (by rintro W ⟨m, rfl⟩; exact run_loadAt_mid _ b (off + k * 32) 30 _ _ (HRX.out _ (below_drewN HB3.out _)) Try.underlying30 rfl HIX.out)
          have HL2 : Hid (∀ W, (∃ m, W = w3.drewN m) → (Instr.loadAt 30 (.pointer (some ⟨w.heap.size, 0, none⟩))).run Try.prog W = .ok (.agg (bcs d)) W) := Lib.hid (by rintro W ⟨m, rfl⟩; exact (HY3.out.later (below_drewN (Below.refl _ _) _)).load HOKd.out.1)
          have heq := fun W => digest_eq x d HOKx.out HOKd.out W
          go_wp2
          refine wp_region_quiet_lit (by kernel_rfl) (by kernel_rfl) ?_
          repeat (first | (refine quiet_want rfl fun K hK => quiet_load 30 _ rfl _ rfl _ (HL1).out (hK _ ?_); clear hK K) | (refine quiet_want rfl fun K hK => quiet_load 30 _ rfl _ rfl _ (HL2).out (hK _ ?_); clear hK K) | (quiet_step (fail)))
          refine wpQuiet_nil ?_
          intro _ hw'
          obtain ⟨nq, hw''⟩ := hw'
          subst hw''
          have hbd : Below w3.heap.size w3 (w3.drewN nq) := below_drewN (Below.refl _ _) _
          have HO1 := Lib.hid (HO3.out.later hbd)
          have HY1 := Lib.hid (HY3.out.later hbd)
          have HB1 : Hid (Below w.heap.size w (w3.drewN nq)) := Lib.hid (below_step HB3.out hbd)
          clear hbd HO3 HY3 HB3 heq HL1 HL2
          generalize w3.drewN nq = wd at *
          have HOKD := HOKd
          have HLD := Lib.hid HOKd.out.1
          have HOb := Lib.hid (HO1.out.alloc (.cells (bcs d) 30))
          have HBb := Lib.hid (HB1.out.alloc HB1.out.size (.cells (bcs d) 30))
          have HYb := Lib.hid (HY1.out.later ((Below.refl _ _).alloc (Nat.le_refl _) (.cells (bcs d) 30)))
          have HNb := Lib.hid (Od.one wd (w.heap.size + 1) d HOKd.out (HSZ1.out _ HB1.out HY1.out)).ds
          have HSb := Lib.hid (HSZ1.out _ HBb.out HYb.out)
          have HMb := Lib.hid (HLEN.out O.length (by have := HLO.out; omega))
          generalize hbx : decide (x = d) = bx
          cases bx
          · have hxd : x ≠ d := by simpa using hbx
            have HINV := Lib.hid (HIMO.out (by first | trivial | rfl) (by first | trivial | rfl) hxd)
            clear HISA HIMO hbx
            go_upto_region 10 with (first
              | (refine wpList_load_row rfl 30 _ rfl w.heap.size rfl 30 _ (0, 0) _ HY1.out Try.underlying30 rfl HZD.out ?_)
              | (refine wpList_build_dig rfl 44 32 rfl Try.underlying44 info24 d HLD.out rfl ?_)
              | (refine wpList_append_digs rfl (.tmp 31) (.tmp 33) 44 rfl Try.underlying44 info24 (w.heap.size + 1) _ O rfl HOb.out _ 1 1 [d] rfl HNb.out (HPC1.out _) HMb.out HSb.out ?_; intro v4 w4 ho4 hg4; have HO4 := Lib.hid ho4; have HB4 := Lib.hid (od_step HOb.out HYb.out HBb.out hg4).1; have HY4 := Lib.hid (od_step HOb.out HYb.out HBb.out hg4).2; clear ho4 hg4))
            clear HO1 HB1 HY1 HOb HBb HYb HNb HSb HMb
            obtain ⟨p4, c4, hv4, _⟩ := HO4.out.open
            subst hv4
            have HOa := Lib.hid (HO4.out.alloc (.cells (bcs x) 30))
            have HBa := Lib.hid (HB4.out.alloc HB4.out.size (.cells (bcs x) 30))
            have HYa := Lib.hid (HY4.out.later ((Below.refl _ _).alloc (Nat.le_refl _) (.cells (bcs x) 30)))
            have HNa := Lib.hid (Od.one w4 (w.heap.size + 1) x HOKx.out (HSZ1.out _ HB4.out HY4.out)).ds
            have HSa := Lib.hid (HSZ1.out _ HBa.out HYa.out)
            have HMa := Lib.hid (HLEN.out (O ++ [d]).length (by have := HLO.out; simp; omega))
            go_wp2_with (first
              | (refine wpList_load_mid rfl 30 _ rfl b (off + k * 32) rfl _ _ (HRX.out _ HB4.out) Try.underlying30 rfl HIX.out ?_)
              | (refine wpList_build_dig rfl 44 39 rfl Try.underlying44 info24 x HLX.out rfl ?_)
              | (refine wpList_append_digs rfl (.tmp 35) (.tmp 40) 44 rfl Try.underlying44 info24 (w.heap.size + 1) _ (O ++ [d]) rfl HOa.out _ 1 1 [x] rfl HNa.out (HPC1.out _) HMa.out HSa.out ?_; intro v5 w5 ho5 hg5; have HO5 := Lib.hid ho5; have HB5 := Lib.hid (od_step HOa.out HYa.out HBa.out hg5).1; have HY5 := Lib.hid (od_step HOa.out HYa.out HBa.out hg5).2; clear ho5 hg5))
            obtain ⟨p5, c5, hv5, _⟩ := HO5.out.open
            subst hv5
            exact ⟨⟨k + 1, true, (O ++ [d]) ++ [x], _, p5, c5, by omega, by go_num, rfl, rfl, HO5, HINV, HY5, HB5⟩, by simp [intOf] <;> omega⟩
          · have hxd : x = d := by simpa using hbx
            have HINV := Lib.hid (HISA.out trivial hxd)
            clear HISA HIMO HOb HBb HYb HNb HSb HMb hbx
            have HOa := Lib.hid (HO1.out.alloc (.cells (bcs x) 30))
            have HBa := Lib.hid (HB1.out.alloc HB1.out.size (.cells (bcs x) 30))
            have HYa := Lib.hid (HY1.out.later ((Below.refl _ _).alloc (Nat.le_refl _) (.cells (bcs x) 30)))
            have HNa := Lib.hid (Od.one wd (w.heap.size + 1) x HOKx.out (HSZ1.out _ HB1.out HY1.out)).ds
            have HSa := Lib.hid (HSZ1.out _ HBa.out HYa.out)
            have HMa := Lib.hid (HLEN.out O.length (by have := HLO.out; simp; omega))
            go_wp2_with (first
              | (refine wpList_load_mid rfl 30 _ rfl b (off + k * 32) rfl _ _ (HRX.out _ HB1.out) Try.underlying30 rfl HIX.out ?_)
              | (refine wpList_build_dig rfl 44 39 rfl Try.underlying44 info24 x HLX.out rfl ?_)
              | (refine wpList_append_digs rfl (.tmp 35) (.tmp 40) 44 rfl Try.underlying44 info24 (w.heap.size + 1) _ O rfl HOa.out _ 1 1 [x] rfl HNa.out (HPC1.out _) HMa.out HSa.out ?_; intro v5 w5 ho5 hg5; have HO5 := Lib.hid ho5; have HB5 := Lib.hid (od_step HOa.out HYa.out HBa.out hg5).1; have HY5 := Lib.hid (od_step HOa.out HYa.out HBa.out hg5).2; clear ho5 hg5))
            obtain ⟨p5, c5, hv5, _⟩ := HO5.out.open
            subst hv5
            exact ⟨⟨k + 1, true, O ++ [x], _, p5, c5, by omega, by go_num, rfl, rfl, HO5, HINV, HY5, HB5⟩, by simp [intOf] <;> omega⟩
      · clear HILE HISA HIMO
        have HINV := Lib.hid (HIIN.out rfl)
        clear HIIN
        go_wp2
        go_quiet (fail)
        have hbd : Below wr.heap.size wr (wr.drewN nq) := below_drewN (Below.refl _ _) _
        have HO1 := Lib.hid (ho.out.later hbd)
        have HY1 := Lib.hid (hy.out.later hbd)
        have HB1 : Hid (Below w.heap.size w (wr.drewN nq)) := Lib.hid (below_step hb.out hbd)
        clear hbd ho hy hb
        generalize wr.drewN nq = wd at *
        have HOa := Lib.hid (HO1.out.alloc (.cells (bcs x) 30))
        have HBa := Lib.hid (HB1.out.alloc HB1.out.size (.cells (bcs x) 30))
        have HYa := Lib.hid (HY1.out.later ((Below.refl _ _).alloc (Nat.le_refl _) (.cells (bcs x) 30)))
        have HNa := Lib.hid (Od.one wd (w.heap.size + 1) x HOKx.out (HSZ1.out _ HB1.out HY1.out)).ds
        have HSa := Lib.hid (HSZ1.out _ HBa.out HYa.out)
        have HMa := Lib.hid (HLEN.out O.length (by have := HLO.out; simp; omega))
        go_wp2_with (first
          | (refine wpList_load_mid rfl 30 _ rfl b (off + k * 32) rfl _ _ (HRX.out _ HB1.out) Try.underlying30 rfl HIX.out ?_)
          | (refine wpList_build_dig rfl 44 39 rfl Try.underlying44 info24 x HLX.out rfl ?_)
          | (refine wpList_append_digs rfl (.tmp 35) (.tmp 40) 44 rfl Try.underlying44 info24 (w.heap.size + 1) _ O rfl HOa.out _ 1 1 [x] rfl HNa.out (HPC1.out _) HMa.out HSa.out ?_; intro v5 w5 ho5 hg5; have HO5 := Lib.hid ho5; have HB5 := Lib.hid (od_step HOa.out HYa.out HBa.out hg5).1; have HY5 := Lib.hid (od_step HOa.out HYa.out HBa.out hg5).2; clear ho5 hg5))
        obtain ⟨p5, c5, hv5, _⟩ := HO5.out.open
        subst hv5
        exact ⟨⟨k + 1, true, O ++ [x], _, p5, c5, by omega, by go_num, rfl, rfl, HO5, HINV, HY5, HB5⟩, by simp [intOf] <;> omega⟩
    · obtain rfl : k = n := by omega
      have HLO : Hid (O.length ≤ 1048578) := Lib.hid (by have := hi.out.1; omega)
      have HFI : Hid (fl = true → O = dput L d) := Lib.hid fun e => putInv_end_in (by have h := hi.out; rw [e, ← HL.out] at h; exact h)
      have HFE : Hid (fl = false → O ++ [d] = dput L d) := Lib.hid fun e => putInv_end (by have h := hi.out; rw [e, ← HL.out] at h; exact h)
      clear hi
      cases fl
      · have HE := Lib.hid (HFE.out rfl)
        have HLD := Lib.hid HOKd.out.1
        have HOb := Lib.hid (ho.out.alloc (.cells (bcs d) 30))
        have HBb := Lib.hid (hb.out.alloc hb.out.size (.cells (bcs d) 30))
        have HYb := Lib.hid (hy.out.later ((Below.refl _ _).alloc (Nat.le_refl _) (.cells (bcs d) 30)))
        have HNb := Lib.hid (Od.one wr (w.heap.size + 1) d HOKd.out (HSZ1.out _ hb.out hy.out)).ds
        have HSb := Lib.hid (HSZ1.out _ HBb.out HYb.out)
        have HMb := Lib.hid (HLEN.out O.length (by have := HLO.out; omega))
        go_wp2_with (first
          | (refine wpList_load_row rfl 30 _ rfl w.heap.size rfl 30 _ (0, 0) _ hy.out Try.underlying30 rfl HZD.out ?_)
          | (refine wpList_build_dig rfl 44 45 rfl Try.underlying44 info24 d HLD.out rfl ?_)
          | (refine wpList_append_digs rfl (.tmp 44) (.tmp 46) 44 rfl Try.underlying44 info24 (w.heap.size + 1) _ O rfl HOb.out _ 1 1 [d] rfl HNb.out (HPC1.out _) HMb.out HSb.out ?_; intro v4 w4 ho4 hg4; have HO4 := Lib.hid ho4; have HB4 := Lib.hid (od_step HOb.out HYb.out HBb.out hg4).1; clear ho4 hg4))
        go_ret
        exact ⟨_, rfl, by rw [← HE.out]; exact HO4.out, HB4.out⟩
      · have HE := Lib.hid (HFI.out rfl)
        go_wp2
        go_ret
        exact ⟨_, rfl, by rw [← HE.out]; exact ho.out, hb.out⟩

set_option maxRecDepth 100000 in
set_option maxHeartbeats 1000000 in
theorem rrow_any (p : Option Addr) (n cap : Nat) (L : List (List Int)) (w : World) (h : Ds w p n L) (hn : n ≤ 1048576) :
    Calls Try.prog 31 #[.slice p n cap] w fun e w' => ∃ v, e = .returned v ∧ Od w' w.heap.size v (drow L) ∧ Below w.heap.size w w' := by
  have H := Lib.hid h
  have HL := Lib.hid h.1
  have HB0 := Lib.hid (Below.refl w.heap.size w)
  have HO0 := Lib.hid (Od.nil w w.heap.size)
  clear h
  go_enter Try.func31, Try.ntmps31
  go_wp2
  go_loopw [3, 4] (fun v i wr => ∃ (k q : Nat) (p' : Option Addr) (c' : Nat), k ≤ n ∧ i = .int .i64 (k : Int) ∧ v = .slice p' q c' ∧ Hid (Od wr w.heap.size (.slice p' q c') (drow (L.take k))) ∧ Hid (Below w.heap.size w wr)) (fun _ i _ => n - (intOf i).toNat)
  case atStart => exact ⟨0, 0, none, 0, by omega, rfl, rfl, by rw [List.take_zero]; exact HO0, HB0⟩
  case round =>
    obtain ⟨k, q, p1, c1, hk, rfl, rfl, ho, hb⟩ := hrel
    by_cases hlt : k < n
    · have hds := H.out.later hb.out
      have hpp : ∃ b off, p = some ⟨b, off, none⟩ := by
        rcases hds.2.2 with h0 | ⟨b, off, hp, _⟩
        · omega
        · exact ⟨b, off, hp⟩
      obtain ⟨b, off, rfl⟩ := hpp
      have HR := Lib.hid (hds.range k hlt)
      have HOKx := Lib.hid (H.out.ok k hlt)
      have HIX : Hid ((Try.prog.info? 30).map (·.size) = some ((L.getD k []).map (Value.int .u8)).length) := Lib.hid (by rw [List.length_map, HOKx.out.1]; exact size32)
      have HT : Hid (drow (L.take (k + 1)) = dput (drow (L.take k)) (L.getD k [])) := Lib.hid (drow_take (by rw [HL.out]; exact hlt))
      have HDS := Lib.hid ho.out.ds
      have HQ : Hid (q ≤ 1048576) := Lib.hid (by
        have h1 := ho.out.len
        have h2 := drow_length (L.take k)
        rw [List.length_take] at h2
        omega)
      clear hds
      generalize L.getD k [] = x at *
      generalize drow (L.take k) = R at *
      go_wp2_with (refine wpList_load_mid rfl 30 _ rfl b (off + k * 32) rfl _ _ HR.out Try.underlying30 rfl HIX.out ?_)
      refine (rput_any p1 q c1 R x _ HDS.out HOKx.out HQ.out).mono ?_
      rintro e w1 ⟨v1, rfl, ho1, hb1⟩
      have HO1 : Hid (Od w1 w.heap.size v1 (dput R x)) := Lib.hid (ho1.mono (by have := hb.out.size; omega))
      have HB1 := Lib.hid (below_step hb.out hb1)
      clear ho1 hb1
      obtain ⟨p5, c5, hv5, _⟩ := HO1.out.open
      subst hv5
      go_wp2
      exact ⟨⟨k + 1, _, p5, c5, by omega, by go_num, rfl, by rw [HT.out]; exact HO1, HB1⟩, by simp [intOf] <;> omega⟩
    · obtain rfl : k = n := by omega
      have HT : Hid (L.take k = L) := Lib.hid (List.take_of_length_le (by rw [HL.out]; omega))
      rw [HT.out] at ho
      go_wp2
      go_ret
      exact ⟨_, rfl, ho.out, hb.out⟩
end Go.Proofs.Ytfdmpbhgejahaaa
