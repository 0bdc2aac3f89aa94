/- Plain mathematics of package frame. -/
import Derived.Test.YtfpelocemceffaaCrcP
import Derived.Test.YtfpelocemceffaaFixN
namespace Go.Proofs.Ytfpelocemceffaa
set_option linter.unusedVariables false

/-- bytes, and behind them their sum -/
def sealN (zs : List Int) : List Int := zs ++ putN (crcN zs : Nat) 4
def frmS (kind seq size : Int) : List Int := putN kind 1 ++ putN seq 8 ++ putN size 4
def frmH (kind seq size : Int) : List Int := sealN (frmS kind seq size)
/-- a frame's bytes -/
def frmN (kind seq : Int) (data : List Int) : List Int := sealN (frmH kind seq data.length ++ data)
/-- the sum of the first n bytes stands behind them -/
def okN (zs : List Int) (n : Nat) : Bool := decide (leN zs n 4 = (crcN (zs.take n) : Nat))
/-- why there is no frame at the front -/
def rdE (r : List Int) : Int :=
  if r.length < 17 then 4 else if okN r 13 = false then 5 else if leN r 0 1 < 1 ∨ leN r 0 1 > 8 ∨ leN r 9 4 > 65536 then 3
  else if r.length < (leN r 9 4).toNat + 21 then 4 else if okN r (17 + (leN r 9 4).toNat) = false then 5 else 0

def Byt (zs : List Int) : Prop := ∀ j, 0 ≤ zs.getD j 0 ∧ zs.getD j 0 < 256

theorem Byt.app {xs ys : List Int} (hx : Byt xs) (hy : Byt ys) : Byt (xs ++ ys) := by
  intro j
  by_cases h : j < xs.length
  · rw [getD_append_left h]; exact hx j
  · have := getD_append_right (xs := xs) (ys := ys) (j := j - xs.length)
    rw [show xs.length + (j - xs.length) = j by omega] at this
    rw [this]; exact hy _
theorem Byt.win {xs : List Int} (hx : Byt xs) (a l : Nat) : Byt ((xs.drop a).take l) := by
  intro j
  rw [List.getD_eq_getElem?_getD, List.getElem?_take]
  split
  · have := hx (a + j)
    rw [List.getD_eq_getElem?_getD] at this
    rw [List.getElem?_drop]; exact this
  · simp
theorem Byt.take {xs : List Int} (hx : Byt xs) (l : Nat) : Byt (xs.take l) := by simpa using hx.win 0 l
theorem Byt.drop {xs : List Int} (hx : Byt xs) (l : Nat) : Byt (xs.drop l) := by
  have := hx.win l (xs.length - l)
  rwa [List.take_of_length_le (by simp)] at this
theorem Byt.put (n : Int) (s : Nat) : Byt (putN n s) := putN_byte n s
theorem Byt.slN {xs : List Int} (hx : Byt xs) : Byt (sealN xs) := hx.app (Byt.put _ _)
theorem Byt.frmS (k s z : Int) : Byt (frmS k s z) := ((Byt.put _ _).app (Byt.put _ _)).app (Byt.put _ _)
theorem Byt.frmN {data : List Int} (hd : Byt data) (k s : Int) : Byt (frmN k s data) := ((Byt.frmS _ _ _).slN.app hd).slN
theorem sealN_length (xs : List Int) : (sealN xs).length = xs.length + 4 := by simp [sealN, putN_length]
theorem frmS_length (k s z : Int) : (frmS k s z).length = 13 := by simp [frmS, putN_length]
theorem frmH_length (k s z : Int) : (frmH k s z).length = 17 := by rw [frmH, sealN_length, frmS_length]
theorem frmN_length (k s : Int) (data : List Int) : (frmN k s data).length = data.length + 21 := by rw [frmN, sealN_length, List.length_append, frmH_length]; omega

theorem crcN_le (zs : List Int) : (crcN zs : Int) < 256 ^ 4 := by have := crcN_lt zs; omega
theorem okN_app (xs ys : List Int) (n : Nat) (h : n + 4 ≤ xs.length) : okN (xs ++ ys) n = okN xs n := by
  unfold okN
  rw [leN_app _ _ _ _ h, List.take_append_of_le_length (by omega)]
theorem okN_take (zs : List Int) (n m : Nat) (h : n + 4 ≤ m) : okN (zs.take m) n = okN zs n := by
  unfold okN
  rw [leN_take _ _ _ _ h, List.take_take, Nat.min_eq_left (by omega)]
theorem okN_seal (xs : List Int) (n : Nat) (h : xs.length = n) : okN (sealN xs) n = true := by
  subst h
  unfold okN sealN
  rw [decide_eq_true_iff, leN_shift, List.take_left]
  have := leN_putN' (crcN xs : Nat) 4 [] (by omega) (crcN_le xs)
  rwa [List.append_nil] at this
/-- .. that is: what stands there is what is laid behind them -/
theorem okN_iff (zs : List Int) (hz : Byt zs) (n : Nat) (h : n + 4 ≤ zs.length) : okN zs n = true ↔ sealN (zs.take n) = zs.take (n + 4) := by
  have e : zs.take (n + 4) = zs.take n ++ putN (leN zs n 4) 4 := by rw [putN_leN zs hz n 4 h, List.take_add]
  rw [e]
  unfold okN sealN
  rw [decide_eq_true_iff]
  constructor
  · intro h; rw [h]
  · intro h
    have h2 := List.append_cancel_left h
    have h3 := congrArg (fun l => leN (l ++ []) 0 4) h2
    have hb := leN_bd zs hz n 4
    rw [leN_putN' _ 4 [] (by omega) (crcN_le _), leN_putN' _ 4 [] hb.1 hb.2] at h3
    exact h3.symm

theorem frmS_kind (k s z : Int) (rest : List Int) : leN (frmS k s z ++ rest) 0 1 = k % 256 := by
  unfold frmS
  rw [List.append_assoc, List.append_assoc]
  simp [leN, putN]
theorem frmS_seq (k s z : Int) (rest : List Int) (h0 : 0 ≤ s) (h1 : s < 18446744073709551616) : leN (frmS k s z ++ rest) 1 8 = s := by
  unfold frmS
  rw [List.append_assoc, List.append_assoc, leN_shift' _ _ 1 8 (putN_length _ _)]
  exact leN_putN' s 8 _ h0 (by simpa using h1)
theorem frmS_size (k s z : Int) (rest : List Int) (h0 : 0 ≤ z) (h1 : z < 4294967296) : leN (frmS k s z ++ rest) 9 4 = z := by
  unfold frmS
  rw [List.append_assoc, leN_shift' _ _ 9 4 (by simp [putN_length])]
  exact leN_putN' z 4 _ h0 (by simpa using h1)
/-- what a head says is what its bytes say -/
theorem frmS_of (r : List Int) (hr : Byt r) (h : 13 ≤ r.length) : frmS (leN r 0 1) (leN r 1 8) (leN r 9 4) = r.take 13 := by
  unfold frmS
  rw [putN_leN r hr 0 1 (by omega), putN_leN r hr 1 8 (by omega), putN_leN r hr 9 4 (by omega), List.drop_zero]
  rw [show (13 : Nat) = 1 + 8 + 4 from rfl, List.take_add, List.take_add]
/-- a frame made again -/
theorem frmN_of (r : List Int) (hr : Byt r) (n : Nat) (h : n + 21 ≤ r.length) (hn : leN r 9 4 = n) (ok : okN r 13 = true) :
    frmN (leN r 0 1) (leN r 1 8) ((r.drop 17).take n) = sealN (r.take (17 + n)) := by
  have hl : ((r.drop 17).take n).length = n := by simp; omega
  unfold frmN frmH
  rw [hl, ← hn, frmS_of r hr (by omega), (okN_iff r hr 13 (by omega)).1 ok, List.take_add (i := 17)]
theorem frmN_same (r : List Int) (hr : Byt r) (n : Nat) (h : n + 21 ≤ r.length) (hn : leN r 9 4 = n) (ok : okN r 13 = true) :
    decide (frmN (leN r 0 1) (leN r 1 8) ((r.drop 17).take n) = r.take (21 + n)) = okN r (17 + n) := by
  rw [frmN_of r hr n h hn ok, Bool.eq_iff_iff, decide_eq_true_iff, okN_iff r hr (17 + n) (by omega), show 17 + n + 4 = 21 + n by omega]

theorem frmN_split (k s : Int) (data rest : List Int) : frmN k s data ++ rest = frmS k s data.length ++ (putN (crcN (frmS k s data.length) : Nat) 4 ++ (data ++ (putN (crcN (frmH k s data.length ++ data) : Nat) 4 ++ rest))) := by
  simp [frmN, frmH, sealN]
theorem frmN_okH (k s : Int) (data rest : List Int) : okN (frmN k s data ++ rest) 13 = true := by
  have e : frmN k s data ++ rest = frmH k s data.length ++ (data ++ (putN (crcN (frmH k s data.length ++ data) : Nat) 4 ++ rest)) := by simp [frmN, sealN]
  rw [e, okN_app _ _ _ (by rw [frmH_length]; omega)]
  exact okN_seal _ _ (frmS_length _ _ _)
theorem frmN_ok (k s : Int) (data rest : List Int) (n : Nat) (hn : data.length = n) : okN (frmN k s data ++ rest) (17 + n) = true := by
  subst hn
  rw [okN_app _ _ _ (by rw [frmN_length]; omega)]
  exact okN_seal _ _ (by rw [List.length_append, frmH_length])
theorem frmN_data (k s : Int) (data rest : List Int) (n : Nat) (hn : data.length = n) : ((frmN k s data ++ rest).drop 17).take n = data := by
  subst hn
  have e : frmN k s data ++ rest = frmH k s data.length ++ (data ++ (putN (crcN (frmH k s data.length ++ data) : Nat) 4 ++ rest)) := by simp [frmN, sealN]
  rw [e, List.drop_append_of_le_length (by rw [frmH_length]; omega), List.drop_of_length_le (by rw [frmH_length]; omega), List.nil_append, List.take_left]
/-- a frame that was made is read -/
theorem frm_back (k s : Int) (data rest : List Int) (n : Nat) (hn : data.length = n) (hk : 1 ≤ k) (hk8 : k ≤ 8) (hm : n ≤ 65536) : rdE (frmN k s data ++ rest) = 0 := by
  have hz : leN (frmN k s data ++ rest) 9 4 = n := by rw [frmN_split, frmS_size _ _ _ _ (by omega) (by omega), hn]
  have hkk : leN (frmN k s data ++ rest) 0 1 = k := by rw [frmN_split, frmS_kind]; omega
  have hl : (frmN k s data ++ rest).length = n + 21 + rest.length := by rw [List.length_append, frmN_length, hn]
  unfold rdE
  rw [hz, hkk, hl, frmN_okH, Int.toNat_natCast, frmN_ok _ _ _ _ _ hn]
  rw [if_neg (by omega), if_neg (by simp), if_neg (by omega), if_neg (by omega), if_neg (by simp)]

/-! ## bursts -/
theorem bitsTo_app (zs : List Int) (m n : Nat) : bitsTo zs (m + n) = bitsTo zs m ++ (List.range n).map (fun i => bAt zs (m + i)) := by
  unfold bitsTo
  rw [List.range_add, List.map_append, List.map_map]
  rfl
theorem numL_app (l m : List Bool) : numL (l ++ m) = numL l + 2 ^ l.length * numL m := by
  induction l with
  | nil => simp [numL]
  | cons b l ih =>
    rw [List.cons_append, numL, numL, ih, List.length_cons, Nat.pow_succ, Nat.mul_add, ← Nat.mul_assoc, Nat.mul_comm 2 (2 ^ l.length), Nat.add_assoc]
theorem numL_bits (zs : List Int) (hz : Byt zs) : ∀ k, (numL (bitsTo zs (8 * k)) : Int) = leN zs 0 k
  | 0 => rfl
  | k + 1 => by
    have hb := hz k
    rw [bitsTo_byte, numL_app, bitsTo_length, numL_byte (by omega), leN, Nat.zero_add]
    have ih := numL_bits zs hz k
    have hp : ((2 ^ (8 * k) : Nat) : Int) = 256 ^ k := by
      rw [Nat.pow_mul, Int.natCast_pow]; rfl
    rw [Int.natCast_add, ih, Int.natCast_mul, hp, Int.toNat_of_nonneg hb.1, Int.mul_comm]
theorem xor_not32 (x : Nat) (h : x < 4294967296) : x ^^^ (4294967295 - x) = 4294967295 := by
  apply Nat.eq_of_testBit_eq
  intro i
  have e : 4294967295 - x = 2 ^ 32 - (x + 1) := by omega
  rw [Nat.testBit_xor, e, Nat.testBit_two_pow_sub_succ (by simpa using h), show (4294967295 : Nat) = 2 ^ 32 - 1 from rfl, Nat.testBit_two_pow_sub_one]
  by_cases hi : i < 32
  · cases x.testBit i <;> simp [hi]
  · have hx : x.testBit i = false := Nat.testBit_lt_two_pow (Nat.lt_of_lt_of_le h (Nat.pow_le_pow_right (n := 2) (i := 32) (by omega) (by omega)))
    simp [hi, hx]
/-- what the register holds behind bytes and their sum -/
theorem residue (zs : List Int) (hz : Byt zs) (n : Nat) (h : n + 4 ≤ zs.length) (ok : okN zs n = true) : cRun 4294967295 (bitsZ (zs.take (n + 4))) = cTn 4294967295 32 := by
  have hs := (okN_iff zs hz n h).1 ok
  rw [← hs, sealN, cRun_bits_app]
  have h4 : bitsZ (putN (crcN (zs.take n) : Nat) 4) = bitsTo (putN (crcN (zs.take n) : Nat) 4) (8 * 4) := by unfold bitsZ; rw [putN_length]
  have hnum := numL_bits (putN (crcN (zs.take n) : Nat) 4) (Byt.put _ _) 4
  have h5 := leN_putN' (crcN (zs.take n) : Nat) 4 [] (by omega) (crcN_le _)
  rw [List.append_nil] at h5
  rw [h5] at hnum
  have hnum' : numL (bitsTo (putN (crcN (zs.take n) : Nat) 4) (8 * 4)) = crcN (zs.take n) := by omega
  rw [h4, cRun_num, bitsTo_length, hnum']
  have hlt : cRun 4294967295 (bitsZ (zs.take n)) < 4294967296 := cRun_lt _ (by omega)
  rw [show crcN (zs.take n) = 4294967295 - cRun 4294967295 (bitsZ (zs.take n)) from rfl, xor_not32 _ hlt]

theorem burst_eq (xs ys : List Int) (hl : ys.length = xs.length) (hx : Byt xs) (hy : Byt ys) (r s : Nat) (h : ∀ j, j < 8 * xs.length → bAt ys j = bAt xs j ∨ (s ≤ j ∧ j < s + 32)) (hc : cRun r (bitsZ ys) = cRun r (bitsZ xs)) : ys = xs := by
  obtain ⟨n, hn⟩ : ∃ n, 8 * xs.length = n := ⟨_, rfl⟩
  have hD : bitsZ ys = List.zipWith xor (bitsZ xs) ((List.range n).map fun j => xor (bAt xs j) (bAt ys j)) := by
    apply List.ext_getElem
    · simp [bitsZ, bitsTo, hl]; omega
    · intro j h1 h2
      simp only [bitsZ, bitsTo, List.getElem_map, List.getElem_range, List.getElem_zipWith]
      cases bAt xs j <;> cases bAt ys j <;> rfl
  have hxr := cRun_xor r 0 (bitsZ xs) ((List.range n).map fun j => xor (bAt xs j) (bAt ys j)) (by simp [bitsZ, bitsTo]; omega)
  rw [Nat.xor_zero, ← hD, hc] at hxr
  have h0 : cRun 0 ((List.range n).map fun j => xor (bAt xs j) (bAt ys j)) = 0 := by
    have h1 := congrArg (cRun r (bitsZ xs) ^^^ ·) hxr
    simp only [Nat.xor_self] at h1
    rw [← Nat.xor_assoc, Nat.xor_self, Nat.zero_xor] at h1
    exact h1.symm
  rw [hn] at h
  refine same_of_bits hl hy hx fun j hj => ?_
  have hj' : j < n := by omega
  rcases h j hj' with e | ⟨hs1, hs2⟩
  · exact e
  · obtain ⟨c, hcc⟩ : ∃ c, min 32 (n - s) = c := ⟨_, rfl⟩
    have hs : ((List.range n).map fun j => xor (bAt xs j) (bAt ys j)) = List.replicate s false ++ (List.range c).map (fun i => xor (bAt xs (s + i)) (bAt ys (s + i))) ++ List.replicate (n - s - c) false := by
      apply List.ext_getElem
      · simp; omega
      · intro i h1 h2
        have hi : i < n := by simpa using h1
        rw [List.getElem_map, List.getElem_range, List.getElem_append]
        split
        · rw [List.getElem_append]
          split
          · rename_i _ hjb
            have hjb : i < s := by simpa using hjb
            rw [List.getElem_replicate]
            rcases h i hi with e | e
            · rw [e, Bool.xor_self]
            · omega
          · rename_i _ hjb
            have hjb : ¬ i < s := by simpa using hjb
            rw [List.getElem_map, List.getElem_range]
            simp only [List.length_replicate]
            rw [show s + (i - s) = i by omega]
        · rename_i hjb
          have hjb : ¬ i < s + c := by simpa using hjb
          rw [List.getElem_replicate]
          rcases h i hi with e | e
          · rw [e, Bool.xor_self]
          · omega
    rw [hs] at h0
    by_cases ht : true ∈ (List.range c).map (fun i => xor (bAt xs (s + i)) (bAt ys (s + i)))
    · exact absurd h0 (burst_seen s (n - s - c) _ (by simp; omega) ht)
    · have hmem : xor (bAt xs (s + (j - s))) (bAt ys (s + (j - s))) ∈ (List.range c).map (fun i => xor (bAt xs (s + i)) (bAt ys (s + i))) :=
        List.mem_map.2 ⟨j - s, List.mem_range.2 (by omega), rfl⟩
      rw [show s + (j - s) = j by omega] at hmem
      have hf : xor (bAt xs j) (bAt ys j) = false := by
        cases hxx : xor (bAt xs j) (bAt ys j) with
        | false => rfl
        | true => rw [hxx] at hmem; exact absurd hmem ht
      revert hf
      cases bAt xs j <;> cases bAt ys j <;> simp

theorem bAt_win (zs : List Int) (a l j : Nat) (h : j < 8 * l) : bAt ((zs.drop a).take l) j = bAt zs (8 * a + j) := by
  unfold bAt
  rw [show (8 * a + j) % 8 = j % 8 by omega, show (8 * a + j) / 8 = a + j / 8 by omega]
  congr 2
  simp only [List.getD_eq_getElem?_getD, List.getElem?_take, if_pos (show j / 8 < l by omega), List.getElem?_drop]

/-- a window of turned bytes whose sum is right, as it was, is what it was -/
theorem burst_win (xs : List Int) (hx : Byt xs) (bit : Int) (m a n : Nat) (h : a + (n + 4) ≤ xs.length) (ok : okN (xs.drop a) n = true) (ok' : okN ((turnZ xs bit m 32).drop a) n = true) :
    ((turnZ xs bit m 32).drop a).take (n + 4) = (xs.drop a).take (n + 4) := by
  have hL := turnZ_length xs bit m 32
  have hy : Byt (turnZ xs bit m 32) := turnZ_byte xs bit m 32 hx
  have hl1 : ((xs.drop a).take (n + 4)).length = n + 4 := by simp; omega
  have hl2 : (((turnZ xs bit m 32).drop a).take (n + 4)).length = n + 4 := by simp; omega
  refine burst_eq _ _ (by rw [hl1, hl2]) (hx.win _ _) (hy.win _ _) 4294967295 (bit - 8 * a).toNat (fun j hj => ?_) ?_
  · rw [hl1] at hj
    rw [bAt_win _ _ _ _ hj, bAt_win _ _ _ _ hj, turnZ_bit xs bit m 32 _ (by omega)]
    by_cases hb : turnB bit m xs.length 32 (8 * a + j) = false
    · left; rw [hb, Bool.xor_false]
    · right
      have hb : turnB bit m xs.length 32 (8 * a + j) = true := by simpa using hb
      unfold turnB at hb
      rw [Bool.and_eq_true, decide_eq_true_iff] at hb
      omega
  · rw [residue _ (hy.drop a) n (by simp; omega) ok', residue _ (hx.drop a) n (by simp; omega) ok]

/-- A BURST IS SEEN. -/
theorem frm_burst (ahead rest data : List Int) (k s : Int) (n : Nat) (ha : Byt ahead) (hr : Byt rest) (hd : Byt data) (hn : data.length = n) (hm : n < 4294967296) (bit : Int) (m : Nat)
    (h0 : rdE ((turnZ (ahead ++ frmN k s data ++ rest) bit m 32).drop ahead.length) = 0) :
    ((turnZ (ahead ++ frmN k s data ++ rest) bit m 32).drop ahead.length).take (n + 21) = frmN k s data := by
  have hB : Byt (ahead ++ frmN k s data ++ rest) := (ha.app (hd.frmN k s)).app hr
  have hLB : (ahead ++ frmN k s data ++ rest).length = ahead.length + (n + 21) + rest.length := by rw [List.length_append, List.length_append, frmN_length, hn]
  have hdr : (ahead ++ frmN k s data ++ rest).drop ahead.length = frmN k s data ++ rest := by rw [List.append_assoc, List.drop_left]
  have hw := fun j (h : ahead.length + (j + 4) ≤ _) => burst_win (ahead ++ frmN k s data ++ rest) hB bit m ahead.length j h
  rw [hdr, hLB] at hw
  generalize (turnZ (ahead ++ frmN k s data ++ rest) bit m 32).drop ahead.length = r at h0 hw
  unfold rdE at h0
  split at h0
  · omega
  split at h0
  · omega
  rename_i hl hok
  have hok : okN r 13 = true := by simpa using hok
  split at h0
  · omega
  split at h0
  · omega
  split at h0
  · omega
  rename_i hok2
  have hok2 : okN r (17 + (leN r 9 4).toNat) = true := by simpa using hok2
  have h17 := hw 13 (by omega) (frmN_okH k s data rest) hok
  have hz : leN r 9 4 = n := by
    rw [← leN_take r 9 4 17 (by omega)]
    show leN (r.take (13 + 4)) 9 4 = n
    rw [h17, leN_take _ _ _ _ (by omega), frmN_split, frmS_size _ _ _ _ (by omega) (by omega), hn]
  rw [hz, Int.toNat_natCast] at hok2
  have hall := hw (17 + n) (by omega) (frmN_ok k s data rest n hn) hok2
  rw [show n + 21 = 17 + n + 4 by omega, hall]
  have hlf : (frmN k s data).length = 17 + n + 4 := by rw [frmN_length, hn]; omega
  rw [← hlf, List.take_left]
end Go.Proofs.Ytfpelocemceffaa
