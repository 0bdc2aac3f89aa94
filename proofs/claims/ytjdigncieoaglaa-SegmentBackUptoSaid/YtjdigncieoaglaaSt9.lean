/- Plain mathematics of package frame; Plain mathematics of package record; Frames that are read, plainly -/
import Derived.Test.YtjdigncieoaglaaSt2
import Derived.Test.YtjdigncieoaglaaSt4
import Derived.Test.YtjdigncieoaglaaSt8
set_option linter.unusedSimpArgs false
set_option linter.unusedVariables false
namespace Go.Proofs.Ytjdigncieoaglaa
set_option linter.unusedVariables false

/-- bytes, and behind them their sum -/
def sealN (zs : List Int) : List Int := zs ++ putN (crcN zs : Nat) 4
def frmS (kind seq size : Int) : List Int := putN kind 1 ++ putN seq 8 ++ putN size 4
def frmH (kind seq size : Int) : List Int := sealN (frmS kind seq size)
/-- a frame's bytes -/
def frmN (kind seq : Int) (data : List Int) : List Int := sealN (frmH kind seq data.length ++ data)
/-- the sum of the first n bytes stands behind them -/
def okN (zs : List Int) (n : Nat) : Bool := decide (leN zs n 4 = (crcN (zs.take n) : Nat))
/-- why there is no frame at the front -/
def rdE (r : List Int) : Int :=
  if r.length < 17 then 4 else if okN r 13 = false then 5 else if leN r 0 1 < 1 ∨ leN r 0 1 > 8 ∨ leN r 9 4 > 65536 then 3
  else if r.length < (leN r 9 4).toNat + 21 then 4 else if okN r (17 + (leN r 9 4).toNat) = false then 5 else 0

def Byt (zs : List Int) : Prop := ∀ j, 0 ≤ zs.getD j 0 ∧ zs.getD j 0 < 256

theorem Byt.app {xs ys : List Int} (hx : Byt xs) (hy : Byt ys) : Byt (xs ++ ys) := by
  intro j
  by_cases h : j < xs.length
  · rw [getD_append_left h]; exact hx j
  · have := getD_append_right (xs := xs) (ys := ys) (j := j - xs.length)
    rw [show xs.length + (j - xs.length) = j by omega] at this
    rw [this]; exact hy _
theorem Byt.win {xs : List Int} (hx : Byt xs) (a l : Nat) : Byt ((xs.drop a).take l) := by
  intro j
  rw [List.getD_eq_getElem?_getD, List.getElem?_take]
  split
  · have := hx (a + j)
    rw [List.getD_eq_getElem?_getD] at this
    rw [List.getElem?_drop]; exact this
  · simp
theorem Byt.take {xs : List Int} (hx : Byt xs) (l : Nat) : Byt (xs.take l) := by simpa using hx.win 0 l
theorem Byt.drop {xs : List Int} (hx : Byt xs) (l : Nat) : Byt (xs.drop l) := by
  have := hx.win l (xs.length - l)
  rwa [List.take_of_length_le (by simp)] at this
theorem Byt.put (n : Int) (s : Nat) : Byt (putN n s) := putN_byte n s
theorem Byt.slN {xs : List Int} (hx : Byt xs) : Byt (sealN xs) := hx.app (Byt.put _ _)
theorem Byt.frmS (k s z : Int) : Byt (frmS k s z) := ((Byt.put _ _).app (Byt.put _ _)).app (Byt.put _ _)
theorem Byt.frmN {data : List Int} (hd : Byt data) (k s : Int) : Byt (frmN k s data) := ((Byt.frmS _ _ _).slN.app hd).slN
theorem sealN_length (xs : List Int) : (sealN xs).length = xs.length + 4 := by simp [sealN, putN_length]
theorem frmS_length (k s z : Int) : (frmS k s z).length = 13 := by simp [frmS, putN_length]
theorem frmH_length (k s z : Int) : (frmH k s z).length = 17 := by rw [frmH, sealN_length, frmS_length]
theorem frmN_length (k s : Int) (data : List Int) : (frmN k s data).length = data.length + 21 := by rw [frmN, sealN_length, List.length_append, frmH_length]; omega

theorem crcN_le (zs : List Int) : (crcN zs : Int) < 256 ^ 4 := by have := crcN_lt zs; omega
theorem okN_app (xs ys : List Int) (n : Nat) (h : n + 4 ≤ xs.length) : okN (xs ++ ys) n = okN xs n := by
  unfold okN
  rw [leN_app _ _ _ _ h, List.take_append_of_le_length (by omega)]
theorem okN_take (zs : List Int) (n m : Nat) (h : n + 4 ≤ m) : okN (zs.take m) n = okN zs n := by
  unfold okN
  rw [leN_take _ _ _ _ h, List.take_take, Nat.min_eq_left (by omega)]
theorem okN_seal (xs : List Int) (n : Nat) (h : xs.length = n) : okN (sealN xs) n = true := by
  subst h
  unfold okN sealN
  rw [decide_eq_true_iff, leN_shift, List.take_left]
  have := leN_putN' (crcN xs : Nat) 4 [] (by omega) (crcN_le xs)
  rwa [List.append_nil] at this
/-- .. that is: what stands there is what is laid behind them -/
theorem okN_iff (zs : List Int) (hz : Byt zs) (n : Nat) (h : n + 4 ≤ zs.length) : okN zs n = true ↔ sealN (zs.take n) = zs.take (n + 4) := by
  have e : zs.take (n + 4) = zs.take n ++ putN (leN zs n 4) 4 := by rw [putN_leN zs hz n 4 h, List.take_add]
  rw [e]
  unfold okN sealN
  rw [decide_eq_true_iff]
  constructor
  · intro h; rw [h]
  · intro h
    have h2 := List.append_cancel_left h
    have h3 := congrArg (fun l => leN (l ++ []) 0 4) h2
    have hb := leN_bd zs hz n 4
    rw [leN_putN' _ 4 [] (by omega) (crcN_le _), leN_putN' _ 4 [] hb.1 hb.2] at h3
    exact h3.symm

theorem frmS_kind (k s z : Int) (rest : List Int) : leN (frmS k s z ++ rest) 0 1 = k % 256 := by
  unfold frmS
  rw [List.append_assoc, List.append_assoc]
  simp [leN, putN]
theorem frmS_seq (k s z : Int) (rest : List Int) (h0 : 0 ≤ s) (h1 : s < 18446744073709551616) : leN (frmS k s z ++ rest) 1 8 = s := by
  unfold frmS
  rw [List.append_assoc, List.append_assoc, leN_shift' _ _ 1 8 (putN_length _ _)]
  exact leN_putN' s 8 _ h0 (by simpa using h1)
theorem frmS_size (k s z : Int) (rest : List Int) (h0 : 0 ≤ z) (h1 : z < 4294967296) : leN (frmS k s z ++ rest) 9 4 = z := by
  unfold frmS
  rw [List.append_assoc, leN_shift' _ _ 9 4 (by simp [putN_length])]
  exact leN_putN' z 4 _ h0 (by simpa using h1)
/-- what a head says is what its bytes say -/
theorem frmS_of (r : List Int) (hr : Byt r) (h : 13 ≤ r.length) : frmS (leN r 0 1) (leN r 1 8) (leN r 9 4) = r.take 13 := by
  unfold frmS
  rw [putN_leN r hr 0 1 (by omega), putN_leN r hr 1 8 (by omega), putN_leN r hr 9 4 (by omega), List.drop_zero]
  rw [show (13 : Nat) = 1 + 8 + 4 from rfl, List.take_add, List.take_add]
/-- a frame made again -/
theorem frmN_of (r : List Int) (hr : Byt r) (n : Nat) (h : n + 21 ≤ r.length) (hn : leN r 9 4 = n) (ok : okN r 13 = true) :
    frmN (leN r 0 1) (leN r 1 8) ((r.drop 17).take n) = sealN (r.take (17 + n)) := by
  have hl : ((r.drop 17).take n).length = n := by simp; omega
  unfold frmN frmH
  rw [hl, ← hn, frmS_of r hr (by omega), (okN_iff r hr 13 (by omega)).1 ok, List.take_add (i := 17)]
theorem frmN_same (r : List Int) (hr : Byt r) (n : Nat) (h : n + 21 ≤ r.length) (hn : leN r 9 4 = n) (ok : okN r 13 = true) :
    decide (frmN (leN r 0 1) (leN r 1 8) ((r.drop 17).take n) = r.take (21 + n)) = okN r (17 + n) := by
  rw [frmN_of r hr n h hn ok, Bool.eq_iff_iff, decide_eq_true_iff, okN_iff r hr (17 + n) (by omega), show 17 + n + 4 = 21 + n by omega]

theorem frmN_split (k s : Int) (data rest : List Int) : frmN k s data ++ rest = frmS k s data.length ++ (putN (crcN (frmS k s data.length) : Nat) 4 ++ (data ++ (putN (crcN (frmH k s data.length ++ data) : Nat) 4 ++ rest))) := by
  simp [frmN, frmH, sealN]
theorem frmN_okH (k s : Int) (data rest : List Int) : okN (frmN k s data ++ rest) 13 = true := by
  have e : frmN k s data ++ rest = frmH k s data.length ++ (data ++ (putN (crcN (frmH k s data.length ++ data) : Nat) 4 ++ rest)) := by simp [frmN, sealN]
  rw [e, okN_app _ _ _ (by rw [frmH_length]; omega)]
  exact okN_seal _ _ (frmS_length _ _ _)
theorem frmN_ok (k s : Int) (data rest : List Int) (n : Nat) (hn : data.length = n) : okN (frmN k s data ++ rest) (17 + n) = true := by
  subst hn
  rw [okN_app _ _ _ (by rw [frmN_length]; omega)]
  exact okN_seal _ _ (by rw [List.length_append, frmH_length])
theorem frmN_data (k s : Int) (data rest : List Int) (n : Nat) (hn : data.length = n) : ((frmN k s data ++ rest).drop 17).take n = data := by
  subst hn
  have e : frmN k s data ++ rest = frmH k s data.length ++ (data ++ (putN (crcN (frmH k s data.length ++ data) : Nat) 4 ++ rest)) := by simp [frmN, sealN]
  rw [e, List.drop_append_of_le_length (by rw [frmH_length]; omega), List.drop_of_length_le (by rw [frmH_length]; omega), List.nil_append, List.take_left]
/-- a frame that was made is read -/
theorem frm_back (k s : Int) (data rest : List Int) (n : Nat) (hn : data.length = n) (hk : 1 ≤ k) (hk8 : k ≤ 8) (hm : n ≤ 65536) : rdE (frmN k s data ++ rest) = 0 := by
  have hz : leN (frmN k s data ++ rest) 9 4 = n := by rw [frmN_split, frmS_size _ _ _ _ (by omega) (by omega), hn]
  have hkk : leN (frmN k s data ++ rest) 0 1 = k := by rw [frmN_split, frmS_kind]; omega
  have hl : (frmN k s data ++ rest).length = n + 21 + rest.length := by rw [List.length_append, frmN_length, hn]
  unfold rdE
  rw [hz, hkk, hl, frmN_okH, Int.toNat_natCast, frmN_ok _ _ _ _ _ hn]
  rw [if_neg (by omega), if_neg (by simp), if_neg (by omega), if_neg (by omega), if_neg (by simp)]

/-! ## bursts -/
theorem bitsTo_app (zs : List Int) (m n : Nat) : bitsTo zs (m + n) = bitsTo zs m ++ (List.range n).map (fun i => bAt zs (m + i)) := by
  unfold bitsTo
  rw [List.range_add, List.map_append, List.map_map]
  rfl
theorem numL_app (l m : List Bool) : numL (l ++ m) = numL l + 2 ^ l.length * numL m := by
  induction l with
  | nil => simp [numL]
  | cons b l ih =>
    rw [List.cons_append, numL, numL, ih, List.length_cons, Nat.pow_succ, Nat.mul_add, ← Nat.mul_assoc, Nat.mul_comm 2 (2 ^ l.length), Nat.add_assoc]
theorem numL_bits (zs : List Int) (hz : Byt zs) : ∀ k, (numL (bitsTo zs (8 * k)) : Int) = leN zs 0 k
  | 0 => rfl
  | k + 1 => by
    have hb := hz k
    rw [bitsTo_byte, numL_app, bitsTo_length, numL_byte (by omega), leN, Nat.zero_add]
    have ih := numL_bits zs hz k
    have hp : ((2 ^ (8 * k) : Nat) : Int) = 256 ^ k := by
      rw [Nat.pow_mul, Int.natCast_pow]; rfl
    rw [Int.natCast_add, ih, Int.natCast_mul, hp, Int.toNat_of_nonneg hb.1, Int.mul_comm]
theorem xor_not32 (x : Nat) (h : x < 4294967296) : x ^^^ (4294967295 - x) = 4294967295 := by
  apply Nat.eq_of_testBit_eq
  intro i
  have e : 4294967295 - x = 2 ^ 32 - (x + 1) := by omega
  rw [Nat.testBit_xor, e, Nat.testBit_two_pow_sub_succ (by simpa using h), show (4294967295 : Nat) = 2 ^ 32 - 1 from rfl, Nat.testBit_two_pow_sub_one]
  by_cases hi : i < 32
  · cases x.testBit i <;> simp [hi]
  · have hx : x.testBit i = false := Nat.testBit_lt_two_pow (Nat.lt_of_lt_of_le h (Nat.pow_le_pow_right (n := 2) (i := 32) (by omega) (by omega)))
    simp [hi, hx]
/-- what the register holds behind bytes and their sum -/
theorem residue (zs : List Int) (hz : Byt zs) (n : Nat) (h : n + 4 ≤ zs.length) (ok : okN zs n = true) : cRun 4294967295 (bitsZ (zs.take (n + 4))) = cTn 4294967295 32 := by
  have hs := (okN_iff zs hz n h).1 ok
  rw [← hs, sealN, cRun_bits_app]
  have h4 : bitsZ (putN (crcN (zs.take n) : Nat) 4) = bitsTo (putN (crcN (zs.take n) : Nat) 4) (8 * 4) := by unfold bitsZ; rw [putN_length]
  have hnum := numL_bits (putN (crcN (zs.take n) : Nat) 4) (Byt.put _ _) 4
  have h5 := leN_putN' (crcN (zs.take n) : Nat) 4 [] (by omega) (crcN_le _)
  rw [List.append_nil] at h5
  rw [h5] at hnum
  have hnum' : numL (bitsTo (putN (crcN (zs.take n) : Nat) 4) (8 * 4)) = crcN (zs.take n) := by omega
  rw [h4, cRun_num, bitsTo_length, hnum']
  have hlt : cRun 4294967295 (bitsZ (zs.take n)) < 4294967296 := cRun_lt _ (by omega)
  rw [show crcN (zs.take n) = 4294967295 - cRun 4294967295 (bitsZ (zs.take n)) from rfl, xor_not32 _ hlt]

theorem burst_eq (xs ys : List Int) (hl : ys.length = xs.length) (hx : Byt xs) (hy : Byt ys) (r s : Nat) (h : ∀ j, j < 8 * xs.length → bAt ys j = bAt xs j ∨ (s ≤ j ∧ j < s + 32)) (hc : cRun r (bitsZ ys) = cRun r (bitsZ xs)) : ys = xs := by
  obtain ⟨n, hn⟩ : ∃ n, 8 * xs.length = n := ⟨_, rfl⟩
  have hD : bitsZ ys = List.zipWith xor (bitsZ xs) ((List.range n).map fun j => xor (bAt xs j) (bAt ys j)) := by
    apply List.ext_getElem
    · simp [bitsZ, bitsTo, hl]; omega
    · intro j h1 h2
      simp only [bitsZ, bitsTo, List.getElem_map, List.getElem_range, List.getElem_zipWith]
      cases bAt xs j <;> cases bAt ys j <;> rfl
  have hxr := cRun_xor r 0 (bitsZ xs) ((List.range n).map fun j => xor (bAt xs j) (bAt ys j)) (by simp [bitsZ, bitsTo]; omega)
  rw [Nat.xor_zero, ← hD, hc] at hxr
  have h0 : cRun 0 ((List.range n).map fun j => xor (bAt xs j) (bAt ys j)) = 0 := by
    have h1 := congrArg (cRun r (bitsZ xs) ^^^ ·) hxr
    simp only [Nat.xor_self] at h1
    rw [← Nat.xor_assoc, Nat.xor_self, Nat.zero_xor] at h1
    exact h1.symm
  rw [hn] at h
  refine same_of_bits hl hy hx fun j hj => ?_
  have hj' : j < n := by omega
  rcases h j hj' with e | ⟨hs1, hs2⟩
  · exact e
  · obtain ⟨c, hcc⟩ : ∃ c, min 32 (n - s) = c := ⟨_, rfl⟩
    have hs : ((List.range n).map fun j => xor (bAt xs j) (bAt ys j)) = List.replicate s false ++ (List.range c).map (fun i => xor (bAt xs (s + i)) (bAt ys (s + i))) ++ List.replicate (n - s - c) false := by
      apply List.ext_getElem
      · simp; omega
      · intro i h1 h2
        have hi : i < n := by simpa using h1
        rw [List.getElem_map, List.getElem_range, List.getElem_append]
        split
        · rw [List.getElem_append]
          split
          · rename_i _ hjb
            have hjb : i < s := by simpa using hjb
            rw [List.getElem_replicate]
            rcases h i hi with e | e
            · rw [e, Bool.xor_self]
            · omega
          · rename_i _ hjb
            have hjb : ¬ i < s := by simpa using hjb
            rw [List.getElem_map, List.getElem_range]
            simp only [List.length_replicate]
            rw [show s + (i - s) = i by omega]
        · rename_i hjb
          have hjb : ¬ i < s + c := by simpa using hjb
          rw [List.getElem_replicate]
          rcases h i hi with e | e
          · rw [e, Bool.xor_self]
          · omega
    rw [hs] at h0
    by_cases ht : true ∈ (List.range c).map (fun i => xor (bAt xs (s + i)) (bAt ys (s + i)))
    · exact absurd h0 (burst_seen s (n - s - c) _ (by simp; omega) ht)
    · have hmem : xor (bAt xs (s + (j - s))) (bAt ys (s + (j - s))) ∈ (List.range c).map (fun i => xor (bAt xs (s + i)) (bAt ys (s + i))) :=
        List.mem_map.2 ⟨j - s, List.mem_range.2 (by omega), rfl⟩
      rw [show s + (j - s) = j by omega] at hmem
      have hf : xor (bAt xs j) (bAt ys j) = false := by
        cases hxx : xor (bAt xs j) (bAt ys j) with
        | false => rfl
        | true => rw [hxx] at hmem; exact absurd hmem ht
      revert hf
      cases bAt xs j <;> cases bAt ys j <;> simp

theorem bAt_win (zs : List Int) (a l j : Nat) (h : j < 8 * l) : bAt ((zs.drop a).take l) j = bAt zs (8 * a + j) := by
  unfold bAt
  rw [show (8 * a + j) % 8 = j % 8 by omega, show (8 * a + j) / 8 = a + j / 8 by omega]
  congr 2
  simp only [List.getD_eq_getElem?_getD, List.getElem?_take, if_pos (show j / 8 < l by omega), List.getElem?_drop]

/-- a window of turned bytes whose sum is right, as it was, is what it was -/
theorem burst_win (xs : List Int) (hx : Byt xs) (bit : Int) (m a n : Nat) (h : a + (n + 4) ≤ xs.length) (ok : okN (xs.drop a) n = true) (ok' : okN ((turnZ xs bit m 32).drop a) n = true) :
    ((turnZ xs bit m 32).drop a).take (n + 4) = (xs.drop a).take (n + 4) := by
  have hL := turnZ_length xs bit m 32
  have hy : Byt (turnZ xs bit m 32) := turnZ_byte xs bit m 32 hx
  have hl1 : ((xs.drop a).take (n + 4)).length = n + 4 := by simp; omega
  have hl2 : (((turnZ xs bit m 32).drop a).take (n + 4)).length = n + 4 := by simp; omega
  refine burst_eq _ _ (by rw [hl1, hl2]) (hx.win _ _) (hy.win _ _) 4294967295 (bit - 8 * a).toNat (fun j hj => ?_) ?_
  · rw [hl1] at hj
    rw [bAt_win _ _ _ _ hj, bAt_win _ _ _ _ hj, turnZ_bit xs bit m 32 _ (by omega)]
    by_cases hb : turnB bit m xs.length 32 (8 * a + j) = false
    · left; rw [hb, Bool.xor_false]
    · right
      have hb : turnB bit m xs.length 32 (8 * a + j) = true := by simpa using hb
      unfold turnB at hb
      rw [Bool.and_eq_true, decide_eq_true_iff] at hb
      omega
  · rw [residue _ (hy.drop a) n (by simp; omega) ok', residue _ (hx.drop a) n (by simp; omega) ok]

/-- A BURST IS SEEN. -/
theorem frm_burst (ahead rest data : List Int) (k s : Int) (n : Nat) (ha : Byt ahead) (hr : Byt rest) (hd : Byt data) (hn : data.length = n) (hm : n < 4294967296) (bit : Int) (m : Nat)
    (h0 : rdE ((turnZ (ahead ++ frmN k s data ++ rest) bit m 32).drop ahead.length) = 0) :
    ((turnZ (ahead ++ frmN k s data ++ rest) bit m 32).drop ahead.length).take (n + 21) = frmN k s data := by
  have hB : Byt (ahead ++ frmN k s data ++ rest) := (ha.app (hd.frmN k s)).app hr
  have hLB : (ahead ++ frmN k s data ++ rest).length = ahead.length + (n + 21) + rest.length := by rw [List.length_append, List.length_append, frmN_length, hn]
  have hdr : (ahead ++ frmN k s data ++ rest).drop ahead.length = frmN k s data ++ rest := by rw [List.append_assoc, List.drop_left]
  have hw := fun j (h : ahead.length + (j + 4) ≤ _) => burst_win (ahead ++ frmN k s data ++ rest) hB bit m ahead.length j h
  rw [hdr, hLB] at hw
  generalize (turnZ (ahead ++ frmN k s data ++ rest) bit m 32).drop ahead.length = r at h0 hw
  unfold rdE at h0
  split at h0
  · omega
  split at h0
  · omega
  rename_i hl hok
  have hok : okN r 13 = true := by simpa using hok
  split at h0
  · omega
  split at h0
  · omega
  split at h0
  · omega
  rename_i hok2
  have hok2 : okN r (17 + (leN r 9 4).toNat) = true := by simpa using hok2
  have h17 := hw 13 (by omega) (frmN_okH k s data rest) hok
  have hz : leN r 9 4 = n := by
    rw [← leN_take r 9 4 17 (by omega)]
    show leN (r.take (13 + 4)) 9 4 = n
    rw [h17, leN_take _ _ _ _ (by omega), frmN_split, frmS_size _ _ _ _ (by omega) (by omega), hn]
  rw [hz, Int.toNat_natCast] at hok2
  have hall := hw (17 + n) (by omega) (frmN_ok k s data rest n hn) hok2
  rw [show n + 21 = 17 + n + 4 by omega, hall]
  have hlf : (frmN k s data).length = 17 + n + 4 := by rw [frmN_length, hn]; omega
  rw [← hlf, List.take_left]
end Go.Proofs.Ytjdigncieoaglaa

namespace Go.Proofs.Ytjdigncieoaglaa
set_option linter.unusedVariables false

/-- a record: kind, sequence number, digest, name, data, two numbers -/
structure Rc where
  k : Int
  s : Int
  dg : List Int
  nm : List Int
  da : List Int
  n : Int
  z : Int
def dg0 : List Int := List.replicate 32 0
def rc0 : Rc := ⟨0, 0, dg0, [], [], 0, 0⟩
def magN : List Int := [115, 116, 105, 108, 108, 97, 103, 101]
def rightN (r : Rc) : Int :=
  if r.k < 1 ∨ r.k > 8 then 2 else if r.k ≤ 2 ∧ r.da.length > 65504 then 18
  else if (r.k = 3 ∨ r.k = 4) ∧ tagP r.nm = false then 12
  else if (r.k = 6 ∨ r.k = 8) ∧ (r.n < 0 ∨ r.z < 0 ∨ r.n ≥ 4294967296 ∨ r.z ≥ 4294967296) then 20
  else if r.k = 7 ∧ (r.n < 1 ∨ r.n > 99999999) then 20 else 0
/-- the data of its frame -/
def dataN (r : Rc) : List Int :=
  if r.k = 1 ∨ r.k = 2 then r.dg ++ r.da else if r.k = 3 then ((r.nm.length : Int) :: r.nm) ++ r.dg else if r.k = 4 then (r.nm.length : Int) :: r.nm
  else if r.k = 5 then r.dg else if r.k = 7 then magN ++ putN r.n 8 else putN r.n 4 ++ putN r.z 4
/-- with the fields alone that its kind has -/
def bareN (r : Rc) : Rc :=
  ⟨r.k, r.s, if r.k ≤ 3 ∨ r.k = 5 then r.dg else dg0, if r.k = 3 ∨ r.k = 4 then r.nm else [], if r.k ≤ 2 then r.da else [], if r.k ≥ 6 then r.n else 0, if r.k = 6 ∨ r.k = 8 then r.z else 0⟩
/-- what data tells, of a kind from 1 to 8 -/
def readN (k : Int) (d : List Int) : Option Rc :=
  if k ≤ 2 then if d.length < 32 then none else some ⟨k, 0, d.take 32, [], d.drop 32, 0, 0⟩
  else if k = 3 then if d.length < 1 then none else if d.length ≠ 33 + (d.getD 0 0).toNat then none else some ⟨k, 0, d.drop (1 + (d.getD 0 0).toNat), (d.drop 1).take (d.getD 0 0).toNat, [], 0, 0⟩
  else if k = 4 then if d.length < 1 then none else if d.length ≠ 1 + (d.getD 0 0).toNat then none else some ⟨k, 0, dg0, d.drop 1, [], 0, 0⟩
  else if k = 5 then if d.length ≠ 32 then none else some ⟨k, 0, d, [], [], 0, 0⟩
  else if k = 7 then if d.length ≠ 16 then none else if d.take 8 ≠ magN then none else some ⟨k, 0, dg0, [], [], if leN d 8 8 < 4294967296 then leN d 8 8 else 0, 0⟩
  else if d.length ≠ 8 then none else some ⟨k, 0, dg0, [], [], leN d 0 4, leN d 4 4⟩
/-- a record that can be: its bytes are bytes, its digest is 32 of them -/
structure Rc.Ok (r : Rc) : Prop where
  dg : Byt r.dg
  dgl : r.dg.length = 32
  nm : Byt r.nm
  da : Byt r.da

theorem tagP_len {cs : List Int} (h : tagP cs = true) : 1 ≤ cs.length ∧ cs.length ≤ 32 := by
  unfold tagP at h
  simp only [Bool.and_eq_true, decide_eq_true_eq] at h
  exact h.1.1
theorem rightN_nm {r : Rc} (h : rightN r = 0) (hk : r.k = 3 ∨ r.k = 4) : tagP r.nm = true := by
  cases ht : tagP r.nm with
  | true => rfl
  | false =>
    unfold rightN at h
    rw [if_neg (by omega), if_neg (by omega), if_pos ⟨hk, ht⟩] at h
    omega
theorem rightN_k {r : Rc} (h : rightN r = 0) : 1 ≤ r.k ∧ r.k ≤ 8 := by
  unfold rightN at h
  by_cases hk : r.k < 1 ∨ r.k > 8
  · rw [if_pos hk] at h; omega
  · omega
theorem rightN_da {r : Rc} (h : rightN r = 0) (hk : r.k ≤ 2) : r.da.length ≤ 65504 := by
  have h1 := rightN_k h
  unfold rightN at h
  rw [if_neg (by omega)] at h
  by_cases hd : r.da.length > 65504
  · rw [if_pos ⟨hk, hd⟩] at h; omega
  · omega
theorem rightN_nz {r : Rc} (h : rightN r = 0) (hk : r.k = 6 ∨ r.k = 8) : 0 ≤ r.n ∧ 0 ≤ r.z ∧ r.n < 4294967296 ∧ r.z < 4294967296 := by
  unfold rightN at h
  rw [if_neg (by omega), if_neg (by omega), if_neg (by omega)] at h
  by_cases hd : r.n < 0 ∨ r.z < 0 ∨ r.n ≥ 4294967296 ∨ r.z ≥ 4294967296
  · rw [if_pos ⟨hk, hd⟩] at h; omega
  · omega
theorem rightN_hd {r : Rc} (h : rightN r = 0) (hk : r.k = 7) : 1 ≤ r.n ∧ r.n ≤ 99999999 := by
  unfold rightN at h
  rw [if_neg (by omega), if_neg (by omega), if_neg (by omega), if_neg (by omega)] at h
  by_cases hd : r.n < 1 ∨ r.n > 99999999
  · rw [if_pos ⟨hk, hd⟩] at h; omega
  · omega
theorem dataN_len {r : Rc} (hr : r.Ok) (h : rightN r = 0) : (dataN r).length ≤ 65536 := by
  have h1 := rightN_k h
  have hl := hr.dgl
  unfold dataN
  split
  · have := rightN_da h (by omega)
    rw [List.length_append]; omega
  · split
    · have := (tagP_len (rightN_nm h (by omega))).2
      simp; omega
    · split
      · have := (tagP_len (rightN_nm h (by omega))).2
        simp; omega
      · split
        · omega
        · split <;> simp [putN_length, magN]
theorem Byt.nil : Byt [] := fun j => by simp
theorem Byt.cons {x : Int} {xs : List Int} (h0 : 0 ≤ x ∧ x < 256) (hx : Byt xs) : Byt (x :: xs) := by
  intro j
  cases j with
  | zero => simpa using h0
  | succ j => simpa using hx j
theorem magN_byt : Byt magN := by
  unfold magN
  repeat (first | exact Byt.nil | refine Byt.cons (by omega) ?_)
theorem dg0_byt : Byt dg0 := by
  intro j
  unfold dg0
  rw [List.getD_eq_getElem?_getD, List.getElem?_replicate]
  split <;> simp
theorem dataN_byt {r : Rc} (hr : r.Ok) (h : rightN r = 0) : Byt (dataN r) := by
  have h1 := rightN_k h
  unfold dataN
  split
  · exact hr.dg.app hr.da
  · split
    · have := tagP_len (rightN_nm h (by omega))
      exact (Byt.cons (by omega) hr.nm).app hr.dg
    · split
      · have := tagP_len (rightN_nm h (by omega))
        exact Byt.cons (by omega) hr.nm
      · split
        · exact hr.dg
        · split
          · exact magN_byt.app (Byt.put _ _)
          · exact (Byt.put _ _).app (Byt.put _ _)
/-- what was made is read -/
theorem rec_back {r : Rc} (hr : r.Ok) (h : rightN r = 0) : readN r.k (dataN r) = some { bareN r with s := 0 } := by
  have h1 := rightN_k h
  obtain ⟨k, s, dg, nm, da, n, z⟩ := r
  have hl := hr.dgl
  dsimp only at h1 hl ⊢
  by_cases h12 : k ≤ 2
  · unfold readN dataN bareN
    dsimp only
    rw [if_pos (show k = 1 ∨ k = 2 by omega), if_pos h12, if_neg (by rw [List.length_append]; omega), if_pos (show k ≤ 3 ∨ k = 5 by omega), if_neg (show ¬ (k = 3 ∨ k = 4) by omega), if_pos h12, if_neg (show ¬ (k ≥ 6) by omega), if_neg (show ¬ (k = 6 ∨ k = 8) by omega), ← hl, List.take_left, List.drop_left]
  have hk : k = 3 ∨ k = 4 ∨ k = 5 ∨ k = 6 ∨ k = 7 ∨ k = 8 := by omega
  rcases hk with rfl | rfl | rfl | rfl | rfl | rfl
  · have ht := tagP_len (rightN_nm h (by simp))
    dsimp only at ht
    have e : ((((nm.length : Nat) : Int) :: nm ++ dg).getD 0 0).toNat = nm.length := by simp
    unfold readN dataN bareN
    simp only [Int.reduceLE, if_false, if_true, Int.reduceEq, or_false, false_or, or_true, true_or, ge_iff_le]
    rw [if_neg (by simp), e, if_neg (by simp; omega), Nat.add_comm 1]
    simp
  · have ht := tagP_len (rightN_nm h (by simp))
    dsimp only at ht
    have e : ((((nm.length : Nat) : Int) :: nm).getD 0 0).toNat = nm.length := by simp
    unfold readN dataN bareN
    simp only [Int.reduceLE, if_false, if_true, Int.reduceEq, or_false, false_or, or_true, true_or, ge_iff_le]
    rw [if_neg (by simp), e, if_neg (by simp; omega)]
    simp
  · unfold readN dataN bareN
    simp only [Int.reduceLE, if_false, if_true, Int.reduceEq, or_false, false_or, or_true, true_or, ge_iff_le]
    rw [if_neg (by omega)]
  · have hb := rightN_nz h (by simp)
    dsimp only at hb
    unfold readN dataN bareN
    simp only [Int.reduceLE, if_false, if_true, Int.reduceEq, or_false, false_or, or_true, true_or, ge_iff_le]
    rw [if_neg (by simp [putN_length]), leN_putN' n 4 _ hb.1 (by simpa using hb.2.2.1), leN_shift' _ _ 4 4 (putN_length _ _)]
    have e := leN_putN' z 4 [] hb.2.1 (by simpa using hb.2.2.2)
    rw [List.append_nil] at e
    rw [e]
  · have hb := rightN_hd h rfl
    dsimp only at hb
    unfold readN dataN bareN
    simp only [Int.reduceLE, if_false, if_true, Int.reduceEq, or_false, false_or, or_true, true_or, ge_iff_le]
    have e := leN_putN' n 8 [] (by omega) (by simp; omega)
    rw [List.append_nil] at e
    rw [if_neg (by simp [putN_length, magN]), if_neg (by simp [magN]), leN_shift' _ _ 8 8 (by simp [magN]), e, if_pos (by omega)]
  · have hb := rightN_nz h (by simp)
    dsimp only at hb
    unfold readN dataN bareN
    simp only [Int.reduceLE, if_false, if_true, Int.reduceEq, or_false, false_or, or_true, true_or, ge_iff_le]
    rw [if_neg (by simp [putN_length]), leN_putN' n 4 _ hb.1 (by simpa using hb.2.2.1), leN_shift' _ _ 4 4 (putN_length _ _)]
    have e := leN_putN' z 4 [] hb.2.1 (by simpa using hb.2.2.2)
    rw [List.append_nil] at e
    rw [e]
/-- what was read has the data that was read -/
theorem rec_forth {k : Int} {d : List Int} {r : Rc} (hd : Byt d) (hk : 1 ≤ k ∧ k ≤ 8) (h : readN k d = some r) (hr : rightN r = 0) : dataN r = d ∧ r.k = k ∧ bareN r = r ∧ r.Ok ∧ r.s = 0 := by
  unfold readN at h
  split at h
  · rename_i h12
    split at h
    · cases h
    · rename_i hl
      cases h
      refine ⟨?_, rfl, ?_, ⟨hd.take _, by simp; omega, Byt.nil, hd.drop _⟩, rfl⟩
      · unfold dataN
        dsimp only
        rw [if_pos (show k = 1 ∨ k = 2 by omega), List.take_append_drop]
      · unfold bareN
        dsimp only
        rw [if_pos (show k ≤ 3 ∨ k = 5 by omega), if_pos h12, if_neg (show ¬ (k ≥ 6) by omega), if_neg (show ¬ (k = 6 ∨ k = 8) by omega), ite_self]
  split at h
  · rename_i h3
    subst h3
    split at h
    · cases h
    split at h
    · cases h
    rename_i hl hm
    cases h
    have hb := hd 0
    have hm' : d.length = 33 + (d.getD 0 0).toNat := Decidable.of_not_not hm
    have hll : ((d.drop 1).take (d.getD 0 0).toNat).length = (d.getD 0 0).toNat := by rw [List.length_take, List.length_drop]; omega
    refine ⟨?_, rfl, ?_, ⟨hd.drop _, by rw [List.length_drop]; omega, hd.win _ _, Byt.nil⟩, rfl⟩
    · unfold dataN
      simp only [Int.reduceEq, or_false, false_or, if_false, if_true]
      rw [hll, Int.toNat_of_nonneg hb.1]
      cases d with
      | nil => simp at hl
      | cons x d =>
        rw [List.getD_cons_zero, Nat.add_comm 1, List.drop_succ_cons, List.drop_succ_cons, List.drop_zero, List.cons_append, List.take_append_drop]
    · unfold bareN
      simp
  split at h
  · rename_i h3
    subst h3
    split at h
    · cases h
    split at h
    · cases h
    rename_i hl hm
    cases h
    have hb := hd 0
    have hm' : d.length = 1 + (d.getD 0 0).toNat := Decidable.of_not_not hm
    have hll : ((d.drop 1)).length = (d.getD 0 0).toNat := by rw [List.length_drop]; omega
    refine ⟨?_, rfl, ?_, ⟨dg0_byt, by simp [dg0], hd.drop _, Byt.nil⟩, rfl⟩
    · unfold dataN
      simp only [Int.reduceEq, or_false, false_or, if_false, if_true]
      rw [hll, Int.toNat_of_nonneg hb.1]
      cases d with
      | nil => simp at hl
      | cons x d => rw [List.getD_cons_zero, List.drop_succ_cons, List.drop_zero]
    · unfold bareN
      simp
  split at h
  · rename_i h3
    subst h3
    split at h
    · cases h
    rename_i hm
    cases h
    have hm' : d.length = 32 := Decidable.of_not_not hm
    refine ⟨?_, rfl, ?_, ⟨hd, hm', Byt.nil, Byt.nil⟩, rfl⟩
    · unfold dataN
      simp
    · unfold bareN
      simp
  split at h
  · rename_i h3
    subst h3
    split at h
    · cases h
    split at h
    · cases h
    rename_i hl hm
    cases h
    have hb := rightN_hd hr rfl
    dsimp only at hb
    have hl' : d.length = 16 := Decidable.of_not_not hl
    have hm' : d.take 8 = magN := Decidable.of_not_not hm
    refine ⟨?_, rfl, ?_, ⟨dg0_byt, by simp [dg0], Byt.nil, Byt.nil⟩, rfl⟩
    · have hx : leN d 8 8 < 4294967296 := by
        by_cases hx : leN d 8 8 < 4294967296
        · exact hx
        · rw [if_neg hx] at hb; omega
      unfold dataN
      simp only [Int.reduceEq, or_false, false_or, if_false, if_true]
      rw [if_pos hx, putN_leN d hd 8 8 (by omega), ← hm', List.take_of_length_le (l := d.drop 8) (by simp; omega), List.take_append_drop]
    · unfold bareN
      simp
  · rename_i h1 h2 h3 h4 h5
    split at h
    · cases h
    rename_i hl
    cases h
    have hl' : d.length = 8 := Decidable.of_not_not hl
    have h68 : k = 6 ∨ k = 8 := by omega
    refine ⟨?_, rfl, ?_, ⟨dg0_byt, by simp [dg0], Byt.nil, Byt.nil⟩, rfl⟩
    · unfold dataN
      dsimp only
      rw [if_neg (by omega), if_neg h2, if_neg h3, if_neg h4, if_neg h5, putN_leN d hd 0 4 (by omega), putN_leN d hd 4 4 (by omega), List.drop_zero, List.take_of_length_le (l := d.drop 4) (by simp; omega), List.take_append_drop]
    · unfold bareN
      dsimp only
      rw [if_neg (by omega), if_neg (by omega), if_neg (by omega), if_pos (by omega), if_pos h68]
end Go.Proofs.Ytjdigncieoaglaa

namespace Go.Proofs.Ytjdigncieoaglaa
set_option linter.unusedVariables false

/-- a frame that was read -/
structure Fr where
  k : Int
  s : Int
  d : List Int
  e : Int
def fr0 : Fr := ⟨0, 0, [], 0⟩
def psE (zs : List Int) (a : Int) : Int := if a < 0 ∨ a > zs.length then 2 else rdE (zs.drop a.toNat)
def psF (zs : List Int) (a : Int) : Fr := if psE zs a = 0 then ⟨leN (zs.drop a.toNat) 0 1, leN (zs.drop a.toNat) 1 8, ((zs.drop a.toNat).drop 17).take (leN (zs.drop a.toNat) 9 4).toNat, a + 21 + leN (zs.drop a.toNat) 9 4⟩ else fr0
/-- a frame that was made is parsed, wherever it stands -/
theorem ps_made (az es data : List Int) (k s : Int) (m n : Nat) (hm : az.length = m) (hn : data.length = n) (hk : 1 ≤ k) (hk8 : k ≤ 8) (hn6 : n ≤ 65536) (hs0 : 0 ≤ s) (hs : s < 18446744073709551616) :
    psE (az ++ frmN k s data ++ es) (m : Int) = 0 ∧ psF (az ++ frmN k s data ++ es) (m : Int) = ⟨k, s, data, (m : Int) + 21 + n⟩ := by
  have hd : (az ++ frmN k s data ++ es).drop m = frmN k s data ++ es := by rw [List.append_assoc, ← hm, List.drop_left]
  have hl : (az ++ frmN k s data ++ es).length = m + (n + 21) + es.length := by rw [List.length_append, List.length_append, frmN_length, hm, hn]
  have hE : psE (az ++ frmN k s data ++ es) (m : Int) = 0 := by
    unfold psE
    rw [if_neg (by rw [hl]; omega), Int.toNat_natCast, hd, frm_back k s data es n hn hk hk8 hn6]
  refine ⟨hE, ?_⟩
  unfold psF
  rw [if_pos hE, Int.toNat_natCast, hd]
  have hz : leN (frmN k s data ++ es) 9 4 = n := by rw [frmN_split, frmS_size _ _ _ _ (by omega) (by omega), hn]
  rw [hz, Int.toNat_natCast, frmN_data k s data es n hn]
  have h1 : leN (frmN k s data ++ es) 0 1 = k := by rw [frmN_split, frmS_kind]; omega
  have h2 : leN (frmN k s data ++ es) 1 8 = s := by rw [frmN_split, frmS_seq _ _ _ _ hs0 hs]
  rw [h1, h2]
/-- what was read -/
theorem ps_of {zs : List Int} (hz : Byt zs) {a : Int} (h : psE zs a = 0) :
    ∃ (m n : Nat), a = (m : Int) ∧ m + (n + 21) ≤ zs.length ∧ n ≤ 65536 ∧ (psF zs a).d.length = n ∧ (1 ≤ (psF zs a).k ∧ (psF zs a).k ≤ 8) ∧ (0 ≤ (psF zs a).s ∧ (psF zs a).s < 18446744073709551616) ∧ Byt (psF zs a).d ∧ (psF zs a).e = (m : Int) + 21 + n ∧ frmN (psF zs a).k (psF zs a).s (psF zs a).d = (zs.drop m).take (n + 21) := by
  have hF : psF zs a = ⟨leN (zs.drop a.toNat) 0 1, leN (zs.drop a.toNat) 1 8, ((zs.drop a.toNat).drop 17).take (leN (zs.drop a.toNat) 9 4).toNat, a + 21 + leN (zs.drop a.toNat) 9 4⟩ := by
    unfold psF
    rw [if_pos h]
  rw [hF]
  unfold psE at h
  by_cases ha : a < 0 ∨ a > zs.length
  · rw [if_pos ha] at h; omega
  rw [if_neg ha] at h
  obtain ⟨m, rfl⟩ := Int.eq_ofNat_of_zero_le (show 0 ≤ a by omega)
  rw [Int.toNat_natCast] at h ⊢
  have hr : Byt (zs.drop m) := hz.drop m
  have hl : (zs.drop m).length = zs.length - m := List.length_drop
  generalize hrr : zs.drop m = r at *
  unfold rdE at h
  by_cases h1 : r.length < 17
  · rw [if_pos h1] at h; omega
  by_cases h2 : okN r 13 = false
  · rw [if_neg h1, if_pos h2] at h; omega
  by_cases h3 : leN r 0 1 < 1 ∨ leN r 0 1 > 8 ∨ leN r 9 4 > 65536
  · rw [if_neg h1, if_neg h2, if_pos h3] at h; omega
  have hz4 := (leN_bd r hr 9 4).1
  obtain ⟨n, hn⟩ := Int.eq_ofNat_of_zero_le hz4
  rw [hn] at h h3 ⊢
  rw [Int.toNat_natCast] at h ⊢
  by_cases h4 : r.length < n + 21
  · rw [if_neg h1, if_neg h2, if_neg h3, if_pos h4] at h; omega
  by_cases h5 : okN r (17 + n) = false
  · rw [if_neg h1, if_neg h2, if_neg h3, if_neg h4, if_pos h5] at h; omega
  have hs := leN_bd r hr 1 8
  refine ⟨m, n, rfl, by omega, by omega, ?_, ⟨by dsimp only; omega, by dsimp only; omega⟩, ⟨hs.1, by simpa using hs.2⟩, (hr.drop 17).take n, rfl, ?_⟩
  · dsimp only
    rw [List.length_take, List.length_drop]; omega
  · dsimp only
    have h6 := frmN_same r hr n (by omega) hn (by simpa using h2)
    rw [show okN r (17 + n) = true by simpa using h5, decide_eq_true_iff] at h6
    rw [h6, Nat.add_comm, hrr]
end Go.Proofs.Ytjdigncieoaglaa
