/-
  Frames that are cut off, and frames with one byte changed; plain mathematics.
-/
import Derived.Test.YtlebbkbbmgmmjabFrameW4
namespace Go.Proofs.Ytlebbkbbmgmmjab

def flatF (l : List (List UInt8)) : List UInt8 := l.flatMap framed
theorem flatF_cons (b : List UInt8) (l : List (List UInt8)) : flatF (b :: l) = framed b ++ flatF l := by simp [flatF]
theorem flatF_append (a b : List (List UInt8)) : flatF (a ++ b) = flatF a ++ flatF b := by simp [flatF]
theorem framesGo_of : ∀ (l : List (List UInt8)) (acc : List UInt8), acc.length + (flatF l).length ≤ 60000 → framesGo l acc = (acc ++ flatF l, 0, 0)
  | [], acc, _ => by simp [framesGo, flatF]
  | b :: l, acc, h => by
    rw [flatF_cons] at h ⊢
    rw [List.length_append, framed_length] at h
    rw [framesGo, if_neg (by omega), framesGo_of l _ (by rw [List.length_append, framed_length]; omega)]
    simp

theorem framesGo_much : ∀ (l : List (List UInt8)) (acc : List UInt8), acc.length ≤ 60000 → 60000 < acc.length + (flatF l).length → framesGo l acc = ([], 9, 0)
  | [], acc, h0, h => by simp [flatF] at h; omega
  | b :: l, acc, h0, h => by
    rw [flatF_cons, List.length_append, framed_length] at h
    rw [framesGo]
    split
    · rfl
    · exact framesGo_much l _ (by rw [List.length_append, framed_length]; omega) (by rw [List.length_append, framed_length]; omega)

theorem framesR_big {l : List (List UInt8)} (h : 1000 < l.length) : framesR l = ([], 2, 0) := by rw [framesR, if_pos h]
theorem framesR_much {l : List (List UInt8)} (h : ¬ 1000 < l.length) (h2 : 60000 < (flatF l).length) : framesR l = ([], 9, 0) := by
  rw [framesR, if_neg h, framesGo_much l [] (by simp) (by simpa using h2)]

theorem framesR_ok {l : List (List UInt8)} (h : ¬ 1000 < l.length) (h2 : ¬ 60000 < (flatF l).length) : framesR l = (flatF l, 0, 0) := by
  rw [framesR, if_neg h, framesGo_of l [] (by simp; omega)]
  simp

theorem framesR_zero {l : List (List UInt8)} (h : (framesR l).2.1 = 0) : l.length ≤ 1000 ∧ (flatF l).length ≤ 60000 ∧ framesR l = (flatF l, 0, 0) := by
  by_cases h1 : 1000 < l.length
  · rw [framesR_big h1] at h; simp at h
  · by_cases h2 : 60000 < (flatF l).length
    · rw [framesR_much h1 h2] at h; simp at h
    · exact ⟨by omega, by omega, framesR_ok h1 h2⟩

theorem flatF_mem : ∀ {l : List (List UInt8)} {b : List UInt8}, b ∈ l → b.length + 6 ≤ (flatF l).length
  | c :: l, b, h => by
    rw [flatF_cons, List.length_append, framed_length]
    rcases List.mem_cons.1 h with rfl | h
    · omega
    · have := flatF_mem h; omega

theorem head2_val (n : Nat) (h : n ≤ 65535) : (UInt8.ofNat (n / 256)).toNat * 256 + (UInt8.ofNat (n % 256)).toNat = n := by
  rw [u8_ofNat_toNat _ (by omega), u8_ofNat_toNat _ (by omega)]
  omega

/-- What decides of bytes with a body's length ahead. -/
theorem frameAt_of (body G : List UInt8) (hb : body.length ≤ 65535) (h0 : G[0]? = some (UInt8.ofNat (body.length / 256))) (h1 : G[1]? = some (UInt8.ofNat (body.length % 256))) :
    frameAt G = if G.length < 6 + body.length then none else if crc (G.take (2 + body.length)) ≠ beVal ((G.drop (2 + body.length)).take 4) then none else some ((G.drop 2).take body.length) :=
  frameAt_eq h0 h1 body.length (head2_val _ hb).symm

theorem framed_get0 (body r : List UInt8) : (framed body ++ r)[0]? = some (UInt8.ofNat (body.length / 256)) := by simp [framed, head2]
theorem framed_get1 (body r : List UInt8) : (framed body ++ r)[1]? = some (UInt8.ofNat (body.length % 256)) := by simp [framed, head2]
theorem framed_take (body r : List UInt8) : (framed body ++ r).take (2 + body.length) = head2 body.length ++ body := by
  have e : framed body ++ r = (head2 body.length ++ body) ++ (be4 (crc (head2 body.length ++ body)) ++ r) := by simp [framed]
  have l : (head2 body.length ++ body).length = 2 + body.length := by simp [head2]; omega
  rw [e, ← l, List.take_left]

theorem framed_drop (body r : List UInt8) : (framed body ++ r).drop (2 + body.length) = be4 (crc (head2 body.length ++ body)) ++ r := by
  have e : framed body ++ r = (head2 body.length ++ body) ++ (be4 (crc (head2 body.length ++ body)) ++ r) := by simp [framed]
  have l : (head2 body.length ++ body).length = 2 + body.length := by simp [head2]; omega
  rw [e, ← l, List.drop_left]

theorem framed_body (body r : List UInt8) : ((framed body ++ r).drop 2).take body.length = body := by
  have e : framed body ++ r = head2 body.length ++ (body ++ (be4 (crc (head2 body.length ++ body)) ++ r)) := by simp [framed]
  have l : (head2 body.length).length = 2 := rfl
  rw [e, ← l, List.drop_left, List.take_left]

theorem frameAt_framed (body r : List UInt8) (hb : body.length ≤ 65535) : frameAt (framed body ++ r) = some body := by
  rw [frameAt_of body _ hb (framed_get0 _ _) (framed_get1 _ _), if_neg (by rw [List.length_append, framed_length]; omega), framed_take, framed_drop]
  have e : (be4 (crc (head2 body.length ++ body)) ++ r).take 4 = be4 (crc (head2 body.length ++ body)) := by
    have l : (be4 (crc (head2 body.length ++ body))).length = 4 := rfl
    rw [← l, List.take_left]
  rw [e, beVal_be4 _ (crc_lt _), if_neg (by simp), framed_body]

theorem frameAt_cut (body r : List UInt8) (t : Nat) (hb : body.length ≤ 65535) (ht : t < body.length + 6) : frameAt ((framed body ++ r).take t) = none := by
  have hl : ((framed body ++ r).take t).length = t := by
    rw [List.length_take, List.length_append, framed_length]
    omega
  by_cases h6 : t < 6
  · exact frameAt_short (by omega)
  · rw [frameAt_of body _ hb, if_pos (by omega)]
    · rw [List.getElem?_take, if_pos (by omega)]; exact framed_get0 _ _
    · rw [List.getElem?_take, if_pos (by omega)]; exact framed_get1 _ _

theorem frameAt_set (body r : List UInt8) (j : Nat) (tb : UInt8) (hb : body.length ≤ 65535) (h2 : 2 ≤ j) (hj : j < body.length + 6) (hne : (framed body)[j]? ≠ some tb) : frameAt ((framed body).set j tb ++ r) = none := by
  have hfl := framed_length body
  have g0 : ((framed body).set j tb ++ r)[0]? = some (UInt8.ofNat (body.length / 256)) := by
    rw [List.getElem?_append_left (by rw [List.length_set]; omega), List.getElem?_set_ne (by omega)]
    have := framed_get0 body []
    rwa [List.append_nil] at this
  have g1 : ((framed body).set j tb ++ r)[1]? = some (UInt8.ofNat (body.length % 256)) := by
    rw [List.getElem?_append_left (by rw [List.length_set]; omega), List.getElem?_set_ne (by omega)]
    have := framed_get1 body []
    rwa [List.append_nil] at this
  rw [frameAt_of body _ hb g0 g1, if_neg (by rw [List.length_append, List.length_set, hfl]; omega), if_pos]
  have ft := framed_take body []
  have fd := framed_drop body []
  rw [List.append_nil] at ft fd
  rw [List.append_nil] at fd
  have e1 : ((framed body).set j tb ++ r).take (2 + body.length) = ((head2 body.length ++ body)).set j tb := by
    rw [List.take_append_of_le_length (by rw [List.length_set]; omega), List.take_set, ft]
  have e2 : (((framed body).set j tb ++ r).drop (2 + body.length)).take 4 = ((framed body).set j tb).drop (2 + body.length) := by
    rw [List.drop_append_of_le_length (by rw [List.length_set]; omega)]
    have l : (((framed body).set j tb).drop (2 + body.length)).length = 4 := by rw [List.length_drop, List.length_set]; omega
    rw [← l, List.take_left]
  rw [e1, e2]
  have lh : (head2 body.length ++ body).length = 2 + body.length := by simp [head2]; omega
  by_cases hjb : j < 2 + body.length
  · -- a byte of the body
    have e3 : ((framed body).set j tb).drop (2 + body.length) = be4 (crc (head2 body.length ++ body)) := by
      rw [List.drop_set, if_pos (by omega), fd]
    rw [e3, beVal_be4 _ (crc_lt _)]
    have hjl : j < (head2 body.length ++ body).length := by omega
    have hold : (head2 body.length ++ body)[j] ≠ tb := by
      intro e
      apply hne
      have h3 : (framed body)[j]? = (head2 body.length ++ body)[j]? := by
        rw [← ft, List.getElem?_take, if_pos (by omega)]
      rw [h3, List.getElem?_eq_getElem hjl, e]
    rw [List.set_eq_take_append_cons_drop, if_pos hjl]
    conv => rhs; rw [← List.take_append_drop j (head2 body.length ++ body), List.drop_eq_getElem_cons hjl]
    exact crc_one (fun e => hold e.symm)
  · -- a byte of the sum
    have e3 : (head2 body.length ++ body).set j tb = head2 body.length ++ body := by
      rw [List.set_eq_of_length_le (by omega)]
    have e4 : ((framed body).set j tb).drop (2 + body.length) = (be4 (crc (head2 body.length ++ body))).set (j - (2 + body.length)) tb := by
      rw [List.drop_set, if_neg (by omega), fd]
    rw [e3, e4]
    intro e
    have e5 : beVal (be4 (crc (head2 body.length ++ body))) = beVal ((be4 (crc (head2 body.length ++ body))).set (j - (2 + body.length)) tb) := by
      rw [beVal_be4 _ (crc_lt _)]; exact e
    have e6 := beVal_inj (by rw [List.length_set]) e5
    apply hne
    have h3 : (framed body)[j]? = (be4 (crc (head2 body.length ++ body)))[j - (2 + body.length)]? := by
      rw [← fd, List.getElem?_drop]
      congr 1
      omega
    rw [h3, e6, List.getElem?_set_self (by rw [be4_length]; omega)]

theorem openGo_flat (tail : List UInt8) (ht : frameAt tail = none) : ∀ (l : List (List UInt8)) (f k : Nat) (acc : List (List UInt8)), (∀ b ∈ l, b.length ≤ 65535) → l.length ≤ f → acc.length + l.length ≤ 1000 →
    openGo (f + 1) (flatF l ++ tail) acc k = (acc ++ l, ((k + (flatF l).length : Nat) : Int), 0)
  | [], f, k, acc, _, _, _ => by
    have e : flatF [] ++ tail = tail := rfl
    rw [e, openGo_end ht]
    simp [flatF]
  | b :: l, 0, _, _, _, h, _ => by simp at h
  | b :: l, f + 1, k, acc, hb, hf, hm => by
    simp only [List.length_cons] at hf hm
    rw [flatF_cons, List.append_assoc, openGo_step (frameAt_framed b _ (hb b (by simp))) (by omega), ← framed_length, List.drop_left, openGo_flat tail ht l f _ _ (fun x hx => hb x (by simp [hx])) (by omega) (by simp; omega)]
    simp [Nat.add_assoc]

theorem openR_flat (l : List (List UInt8)) (tail : List UInt8) (ht : frameAt tail = none) (hb : ∀ b ∈ l, b.length ≤ 65535) (hl : l.length ≤ 1000) (hlen : (flatF l ++ tail).length ≤ 60000) :
    openR (flatF l ++ tail) = (l, ((flatF l).length : Int), 0) := by
  have hll : l.length ≤ (flatF l).length := by
    clear hb hl hlen ht
    induction l with
    | nil => simp
    | cons b l ih => rw [flatF_cons, List.length_append, framed_length, List.length_cons]; omega
  rw [openR, if_neg (by omega), openGo_flat tail ht l _ 0 [] hb (by rw [List.length_append]; omega) (by simpa using hl)]
  simp

theorem flatF_snoc (l : List (List UInt8)) (k : Nat) (h : k < l.length) : flatF (l.take (k + 1)) = flatF (l.take k) ++ framed l[k] := by
  rw [List.take_succ_eq_append_getElem h, flatF_append]
  simp [flatF]

theorem flatF_split (l : List (List UInt8)) (k : Nat) : flatF l = flatF (l.take k) ++ flatF (l.drop k) := by
  rw [← flatF_append, List.take_append_drop]

/-- Cut off. -/
theorem torn_cut (l : List (List UInt8)) (cut k : Nat) (hl : l.length ≤ 1000) (hs : (flatF l).length ≤ 60000) (hc : cut ≤ (flatF l).length) (hk : k ≤ l.length) (hn : (flatF (l.take k)).length ≤ cut)
    (hend : ∀ h : k < l.length, cut < (flatF (l.take k)).length + l[k].length + 6) : openR ((flatF l).take cut) = (l.take k, ((flatF (l.take k)).length : Int), 0) := by
  have hb : ∀ b ∈ l, b.length ≤ 65535 := fun b hb => by have := flatF_mem hb; omega
  have e : (flatF l).take cut = flatF (l.take k) ++ (flatF (l.drop k)).take (cut - (flatF (l.take k)).length) := by
    conv => lhs; rw [flatF_split l k]
    rw [List.take_append, List.take_of_length_le hn]
  rw [e]
  refine openR_flat _ _ ?_ (fun b h => hb b (List.mem_of_mem_take h)) (by rw [List.length_take]; omega) ?_
  · by_cases hk2 : k < l.length
    · rw [drop_cons l k hk2, flatF_cons]
      exact frameAt_cut _ _ _ (hb _ (List.getElem_mem hk2)) (by have := hend hk2; omega)
    · rw [List.drop_eq_nil_of_le (by omega)]
      simp [flatF, frameAt]
  · rw [← e, List.length_take]; omega

/-- One byte changed. -/
theorem torn_set (l : List (List UInt8)) (i k : Nat) (tb : UInt8) (hl : l.length ≤ 1000) (hs : (flatF l).length ≤ 60000) (hk : k < l.length) (h2 : (flatF (l.take k)).length + 2 ≤ i) (h3 : i < (flatF (l.take k)).length + l[k].length + 6)
    (hne : (flatF l)[i]? ≠ some tb) : openR ((flatF l).set i tb) = (l.take k, ((flatF (l.take k)).length : Int), 0) := by
  have hb : ∀ b ∈ l, b.length ≤ 65535 := fun b hb => by have := flatF_mem hb; omega
  have e0 : flatF l = flatF (l.take k) ++ (framed l[k] ++ flatF (l.drop (k + 1))) := by
    rw [← flatF_cons, ← drop_cons l k hk]
    exact flatF_split l k
  have hfl := framed_length l[k]
  have e : (flatF l).set i tb = flatF (l.take k) ++ ((framed l[k]).set (i - (flatF (l.take k)).length) tb ++ flatF (l.drop (k + 1))) := by
    rw [e0, List.set_append_right _ _ (by omega), List.set_append_left _ _ (by omega)]
  have hne' : (framed l[k])[i - (flatF (l.take k)).length]? ≠ some tb := by
    intro h
    apply hne
    rw [e0, List.getElem?_append_right (by omega), List.getElem?_append_left (by omega), h]
  have hlen : ((flatF l).set i tb).length ≤ 60000 := by rw [List.length_set]; exact hs
  rw [e] at hlen ⊢
  exact openR_flat _ _ (frameAt_set _ _ _ _ (hb _ (List.getElem_mem hk)) (by omega) (by omega) hne') (fun b h => hb b (List.mem_of_mem_take h)) (by rw [List.length_take]; omega) hlen

end Go.Proofs.Ytlebbkbbmgmmjab
