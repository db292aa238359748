/- A manifest's bytes and back: plain facts. -/
import Derived.Test.YtaaeihkbnfcolaaPd
import Derived.Test.YtaaeihkbnfcolaaHp
namespace Go.Proofs.Ytaaeihkbnfcolaa
open Go.RowKit
theorem mB_parts (p : Prt) (r : List UInt8) : mB p ++ r = txt p.nm ++ (unh p.dg ++ (enc p.sz.toNat ++ r)) := by
  unfold mB txt; simp only [List.append_assoc]
theorem mBs_cons (p : Prt) (l : List Prt) : mBs (p :: l) = mB p ++ mBs l := rfl
theorem mBs_append (l m : List Prt) : mBs (l ++ m) = mBs l ++ mBs m := by simp [mBs]
theorem rdTail_succ (k : Nat) (acc : List Prt) (r : List UInt8) : rdTail (k + 1) acc r = if tErr r ≠ 0 then (tErr r, []) else if (tRest r).length < 32 then (8, [])
    else if rErr ((tRest r).drop 32) ≠ 0 then (rErr ((tRest r).drop 32), [])
    else rdTail k (acc ++ [⟨tStr r, hexT ((tRest r).take 32), (rVal ((tRest r).drop 32) : Int)⟩]) (rRest ((tRest r).drop 32)) := rfl
/-- reading parts that were written -/
theorem rdTail_back : ∀ (l acc : List Prt) (r : List UInt8), (∀ p ∈ l, p.fine) → rdTail l.length acc (mBs l ++ r) = rdTail 0 (acc ++ l) r
  | [], acc, r, _ => by rw [List.append_nil]; rfl
  | p :: l, acc, r, h => by
    obtain ⟨_, h1, h2, h3, h4, h5, h6⟩ := h p (by simp)
    have hu : (unh p.dg).length = 32 := by rw [unh_length, h3]
    rw [mBs_cons, List.append_assoc, mB_parts, List.length_cons, rdTail_succ]
    obtain ⟨t0, t1, t2⟩ := text_read p.nm (unh p.dg ++ (enc p.sz.toNat ++ (mBs l ++ r))) (by omega)
    rw [t0, t1, t2, if_neg (by omega), if_neg (by rw [List.length_append]; omega), List.drop_left' hu, List.take_left' hu]
    obtain ⟨r0, r1, _, r3⟩ := read_enc (n := p.sz.toNat) (by omega) (mBs l ++ r)
    rw [r0, r1, r3, if_neg (by omega), hexT_unh _ (by omega) h4, show ((p.sz.toNat : Nat) : Int) = p.sz from by omega]
    rw [rdTail_back l (acc ++ [p]) r (fun q hq => h q (by simp [hq])), List.append_assoc]
    rfl
theorem mB_length {p : Prt} (h : p.fine) : (mB p).length ≤ 60 := by
  obtain ⟨_, h1, h2, h3, h4, h5, h6⟩ := h
  have hu : (unh p.dg).length = 32 := by rw [unh_length, h3]
  have e1 := enc_len5 (n := p.nm.length) (by omega)
  have e2 := enc_len5 (n := p.sz.toNat) (by omega)
  unfold mB
  simp only [List.length_append]
  omega
theorem mBs_length : ∀ l : List Prt, (∀ p ∈ l, p.fine) → (mBs l).length ≤ 60 * l.length
  | [], _ => by simp [mBs]
  | p :: l, h => by
    have h1 := mB_length (h p (by simp))
    have h2 := mBs_length l fun q hq => h q (by simp [hq])
    rw [mBs_cons, List.length_append, List.length_cons]; omega
theorem man_eq {l : List Prt} (h : l.length ≤ 8) : man l = [65, 77, 49, UInt8.ofNat l.length] ++ mBs l := by
  unfold man; rw [enc_small (by omega)]; rfl
theorem man_length {l : List Prt} (h : psErr l = 0) : 4 ≤ (man l).length ∧ (man l).length ≤ 500 := by
  obtain ⟨h1, h2⟩ := psErr_zero h
  have := mBs_length l h2
  rw [man_eq h1]
  simp only [List.length_append, List.length_cons, List.length_nil]
  omega
/-- reading a manifest that was written, and bytes behind it -/
theorem dec_man {l : List Prt} (h : psErr l = 0) (r : List UInt8) (hr : r.length ≤ 1000) : dec (man l ++ r) = if 0 < r.length then (3, []) else (0, l) := by
  obtain ⟨h1, h2⟩ := psErr_zero h
  obtain ⟨h3, h4⟩ := man_length h
  have e : man l ++ r = [65, 77, 49] ++ (enc l.length ++ (mBs l ++ r)) := by unfold man; simp only [List.append_assoc]
  have hlen : (man l ++ r).length ≤ 1500 := by rw [List.length_append]; omega
  have hlen3 : 3 ≤ (man l ++ r).length := by rw [List.length_append]; omega
  obtain ⟨r0, r1, _, r3⟩ := read_enc (n := l.length) (by omega) (mBs l ++ r)
  unfold dec
  rw [if_neg (by omega)]
  rw [if_neg (by rintro (q | q); · omega
                 · exact q (by rw [e]; rfl))]
  have ed : (man l ++ r).drop 3 = enc l.length ++ (mBs l ++ r) := by rw [e]; rfl
  rw [ed, r0, r1, r3, if_neg (by omega), if_neg (by omega), rdTail_back l [] r h2, List.nil_append, rdTail]
  split
  · rfl
  · rw [h, if_neg (by omega)]
/-- what is read was written so -/
theorem rdTail_turn : ∀ (k : Nat) (acc : List Prt) (r : List UInt8), (rdTail k acc r).1 = 0 → ∃ l : List Prt, l.length = k ∧ (rdTail k acc r).2 = acc ++ l ∧ mBs l = r ∧ psErr (acc ++ l) = 0
  | 0, acc, r, h => by
    rw [rdTail] at h ⊢
    split at h
    · simp at h
    · rename_i h1
      split at h
      · rename_i h2; exact absurd h h2
      · rename_i h2
        have h3 : psErr acc = 0 := Classical.byContradiction h2
        have h4 : r = [] := List.eq_nil_of_length_eq_zero (by omega)
        refine ⟨[], rfl, ?_, ?_, ?_⟩
        · rw [if_neg h1, if_neg h2, List.append_nil]
        · rw [h4]; rfl
        · rw [List.append_nil]; exact h3
  | k + 1, acc, r, h => by
    rw [rdTail] at h ⊢
    split at h
    · rename_i h1; exact absurd h h1
    · rename_i h1
      split at h
      · simp at h
      · rename_i h2
        split at h
        · rename_i h3; exact absurd h h3
        · rename_i h3
          obtain ⟨l, hl, h4, h5, h6⟩ := rdTail_turn k _ _ h
          have t0 : tErr r = 0 := Classical.byContradiction h1
          have r0 : rErr ((tRest r).drop 32) = 0 := Classical.byContradiction h3
          refine ⟨⟨tStr r, hexT ((tRest r).take 32), (rVal ((tRest r).drop 32) : Int)⟩ :: l, by rw [List.length_cons, hl], ?_, ?_, ?_⟩
          · rw [if_neg h1, if_neg h2, if_neg h3, h4, List.append_assoc]; rfl
          · rw [mBs_cons, mB_parts, h5]
            simp only [unh_hexT, Int.toNat_natCast]
            rw [read_turn r0, List.take_append_drop, text_turn t0]
          · rw [List.append_assoc] at h6; exact h6
theorem dec_turn {b : List UInt8} (h : (dec b).1 = 0) : man (dec b).2 = b ∧ psErr (dec b).2 = 0 := by
  unfold dec at h ⊢
  split at h
  · simp at h
  · rename_i h1
    split at h
    · simp at h
    · rename_i h2
      split at h
      · rename_i h3; exact absurd h h3
      · rename_i h3
        split at h
        · simp at h
        · rename_i h4
          obtain ⟨l, hl, h5, h6, h7⟩ := rdTail_turn _ _ _ h
          rw [if_neg h1, if_neg h2, if_neg h3, if_neg h4, h5, List.nil_append]
          rw [List.nil_append] at h7
          have r0 : rErr (b.drop 3) = 0 := Classical.byContradiction h3
          have h8 : b.take 3 = [65, 77, 49] := Classical.byContradiction fun q => h2 (.inr q)
          refine ⟨?_, h7⟩
          unfold man
          rw [hl, h6, List.append_assoc, read_turn r0, ← h8, List.take_append_drop]
/-- no beginning of a manifest is one -/
theorem dec_torn {l : List Prt} (h : psErr l = 0) {p : Nat} (hp : p < (man l).length) : (dec ((man l).take p)).1 ≠ 0 := by
  intro h0
  obtain ⟨h1, h2⟩ := dec_turn h0
  have e : man l = man (dec ((man l).take p)).2 ++ (man l).drop p := by rw [h1, List.take_append_drop]
  have h3 := man_length h
  have h4 := dec_man h2 ((man l).drop p) (by rw [List.length_drop]; omega)
  rw [← e, if_pos (by rw [List.length_drop]; omega)] at h4
  have h5 := dec_man h [] (by simp)
  rw [List.append_nil, h4] at h5
  simp at h5
end Go.Proofs.Ytaaeihkbnfcolaa
