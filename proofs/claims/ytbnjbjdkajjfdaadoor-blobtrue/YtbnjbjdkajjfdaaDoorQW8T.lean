/- The law BlobTrue: the walk. -/
import Derived.Test.YtbnjbjdkajjfdaaDoorGP
import Derived.Test.YtbnjbjdkajjfdaaDoorGV
import Derived.Test.YtbnjbjdkajjfdaaDoorGO
import Derived.Test.YtbnjbjdkajjfdaaDoorGF
import Derived.Test.YtbnjbjdkajjfdaaDoorQW5U
namespace Go.Proofs.YtbnjbjdkajjfdaaDoor
open Go.RowKit
theorem bErr_dig (D : List UInt8) (h : D.length ≤ 300) : bErr ⟨dig D, D, 0, false⟩ = 0 := by
  unfold bErr
  simp only
  rw [cErr_dig, if_neg (by omega), if_neg (by omega), if_neg (by simp), if_neg (by omega)]
theorem bErr_turned (D t : List UInt8) (hD : D.length ≤ 300) (hl : t.length = 64) (hne : t ≠ dig D) : bErr ⟨t, D, 0, false⟩ = 9 ∨ bErr ⟨t, D, 0, false⟩ = 3 := by
  unfold bErr
  simp only
  have hc : cErr t = 0 ∨ cErr t = 3 := by
    unfold cErr
    rw [if_neg (by omega)]
    split
    · exact .inl rfl
    · exact .inr rfl
  rcases hc with hc | hc
  · left
    rw [hc, if_neg (by omega), if_neg (by omega), if_pos (fun q => hne q.symm)]
  · right
    rw [hc, if_pos (by omega)]
theorem src_x {P : Program} {w : World} {tx e : TypeId} (hk : P.underlying tx = some (.slice e)) (t : TypeId) : Src P 1 tx (.slice (some ⟨w.heap.size, 0, none⟩) 1 1) ([120] : List UInt8).length (([120] : List UInt8).map bv8) (w.alloc (.cells #[.int .u8 120] t)) :=
  src_new (m := [120]) hk (new_rd w t [120] (0, 0) (by unfold maxLen; simp)) (fun h => by cases h)
theorem Room.below {w w' : World} {base : Nat} {A : Option Addr} {n c : Nat} {l : List UInt8} (h : Room w base A n c l) (hb : Below w.heap.size w w') : Room w' base A n c l := by
  obtain ⟨g, hg, hf⟩ := h.free
  have hlt := (h.new _ hg).2
  refine ⟨h.rd.below hb, h.nil, fun a ha => ⟨(h.new a ha).1, Nat.lt_of_lt_of_le (h.new a ha).2 hb.size⟩, g, hg, fun j hj => ?_⟩
  have hk := hb.block g hlt
  have h1 := hf j hj
  unfold World.cell? World.frozen? at h1 ⊢
  simp only at h1 ⊢
  rw [hk]
  exact h1
set_option maxRecDepth 100000 in
set_option maxHeartbeats 2000000 in
theorem blobTrue_walk (q : Rw) (k : Int) (w : World) (hK : Kon w) (hq : q.good) (hk : (Lit.int .i64 k).wf = true) :
    Calls Tryd.prog 8 #[.agg #[.int .i64 q.kd, .int .i64 q.ra, .int .i64 q.rb, .string (str q.tx)], .int .i64 k] w fun e w' => e = .returned (.bool true) ∧ Below w.heap.size w w' := by
  obtain ⟨k1, k2⟩ := i64_range hk
  obtain ⟨i0, hi0, hz0, hz1, hz2⟩ := info_parts u8_info
  have hdat : ∀ W : World, Calls Tryd.prog 23 #[.agg #[.int .i64 q.kd, .int .i64 q.ra, .int .i64 q.rb, .string (str q.tx)], .int .i64 60] W (GivesRo (dat q 60) W) := fun W => data_room q 60 W hq.2.2.2 (by omega)
  have hdl := dat_le q 60
  generalize dat q 60 = d0 at *
  have HDT := Lib.hid hdat
  obtain ⟨D, hD⟩ : ∃ D, d0 ++ [120] = D := ⟨_, rfl⟩
  have hDl : D.length ≤ 61 := by rw [← hD, List.length_append]; simp; omega
  have HDD := Lib.hid hD
  have hB0 := bErr_dig D (by omega)
  have hdgl := dig_length D
  have hdi : Hid (∀ (A : Option Addr) (n c : Nat) (W : World), Rd W 1 A n c (D.map bv8) → n ≤ 140737488351232 → Calls Tryd.prog 25 #[.slice A n c] W fun e w' => e = .returned (.string (str (dig D))) ∧ Below W.heap.size W w') := fun A n c W hr hz => digest_ok A n c D W hr hz
  have hbt := fun t => bErr_turned D t (by omega)
  generalize dig D = dd at *
  have hg0 : Bl.good ⟨dd, D, 0, false⟩ := ⟨by show dd.length ≤ maxLen; rw [hdgl]; unfold maxLen; omega, rfl, by show D.length ≤ _; omega⟩
  obtain ⟨p, hp, hp2⟩ := pk_nat k 64 (by omega)
  have Hp : Hid (pk k ((64 : Nat) : Int) = (p : Int)) := hp
  have hpl : p < dd.length := by rw [hdgl]; omega
  obtain ⟨t, ht⟩ : ∃ t, dd.set p (dd[p] ^^^ turnB 1) = t := ⟨_, rfl⟩
  have HT := Lib.hid ht
  have htl : t.length = 64 := by rw [← ht, List.length_set]; exact hdgl
  have hne : t ≠ dd := fun q => by
    have h1 : (dd.set p (dd[p] ^^^ turnB 1))[p]? = dd[p]? := by rw [ht, q]
    rw [List.getElem?_set_self hpl, List.getElem?_eq_getElem hpl] at h1
    injection h1 with h1
    exact turn_ne _ _ h1
  have hBt := hbt t htl hne
  have hgt : Bl.good ⟨t, D, 0, false⟩ := ⟨by show t.length ≤ maxLen; rw [htl]; unfold maxLen; omega, rfl, by show D.length ≤ _; omega⟩
  obtain ⟨et, het⟩ : ∃ et, bErr ⟨t, D, 0, false⟩ = et := ⟨_, rfl⟩
  rw [het] at hBt
  have HET := Lib.hid het
  have HB0 := Lib.hid hB0
  have HG0 := Lib.hid hg0
  have HGT := Lib.hid hgt
  have HTL := Lib.hid htl
  have HDG := Lib.hid hdgl
  have hdx : dd.length ≤ maxLen := by rw [hdgl]; unfold maxLen; omega
  generalize q.kd = kd at *
  generalize q.ra = ra at *
  generalize q.rb = rb at *
  generalize q.tx = tx at *
  have hal := (Below.refl w.heap.size w).alloc (Nat.le_refl _) (.cells #[.int .i64 kd, .int .i64 ra, .int .i64 rb, .string (str tx)] 43)
  have hbk := Blk.new w 43 [.int .i64 kd, .int .i64 ra, .int .i64 rb, .string (str tx)]
  have e0 := hbk.cell 0
  have e1 := hbk.cell 1
  have e2 := hbk.cell 2
  have e3 := hbk.cell 3
  simp only [List.getElem?_cons_succ, List.getElem?_cons_zero] at e0 e1 e2 e3
  clear hdat hD hB0 hg0 hp ht htl hne hbt hgt het hdgl hbk hq hk
  go_enter Tryd.func8, Tryd.ntmps8
  go_wp2_with fail
  with_reducible refine (HDT.out _).mono ?_
  rintro e w1 ⟨A1, n1, c1, rfl, hR1, hb1⟩
  obtain rfl := hR1.rd.len
  have hal1 := (Below.refl w1.heap.size w1).alloc (Nat.le_refl _) (.cells #[.int .u8 120] 5)
  have hR2 := hR1.below hal1
  have hb1a := hb1.trans (hal1.mono hb1.size)
  have hbA := below_step hal hb1a
  have hsx := src_x (P := Tryd.prog) (w := w1) Tryd.underlying22 5
  have hln : d0.length + ([120] : List UInt8).length ≤ 1000000 := by simp; omega
  have hl61 : d0.length + ([120] : List UInt8).length ≤ 61 := by simp; omega
  clear e0 e1 e2 e3 hR1
  go_wp2_with (at_builtin; refine wpList_append_by rfl (.tmp 9) (.tmp 10) _ _ rfl Tryd.underlying22 hi0 hz0 hz1 hz2 rfl hR2 _ rfl hsx hb1a.size hln ?_; rintro A2 c2 w2 ⟨hr2, hA2, hF2, hb2⟩)
  rw [HDD.out] at hr2
  replace hr2 : Rd w2 1 A2 (d0.length + 1) c2 (D.map bv8) := hr2
  replace hl61 : d0.length + 1 ≤ 61 := hl61
  obtain ⟨N, hN⟩ : ∃ N, d0.length + 1 = N := ⟨_, rfl⟩
  rw [hN] at hr2 hl61 ⊢
  have hbB := hbA.trans (hb2.mono hal.size)
  have HN := Lib.hid hN
  have HF2' := Lib.hid hF2
  clear hN hln hsx hR2 hb1a hb1 hbA hal1 hF2
  with_reducible refine (hdi.out _ _ _ _ hr2 (by omega)).mono ?_
  rintro e w3 ⟨rfl, hb3⟩
  have hbC := below_step hbB hb3
  have hz3 := hb3.size
  have hal4 := (Below.refl w3.heap.size w3).alloc (Nat.le_refl _) (.cells #[.string (str dd), .slice A2 N c2, .int .i64 0, .bool false] 24)
  have hk4 := Blk.new w3 24 [.string (str dd), .slice A2 N c2, .int .i64 0, .bool false]
  have hbD := below_step hbC hal4
  have hb24 := below_step hb3 hal4
  have hr4 := hr2.below hb24
  have e0 := hk4.cell 0
  have e1 := hk4.cell 1
  have e2 := hk4.cell 2
  have e3 := hk4.cell 3
  simp only [List.getElem?_cons_succ, List.getElem?_cons_zero] at e0 e1 e2 e3
  clear hbB hb3 hal4 hbC
  go_wp2_with fail
  with_reducible refine (right_any ⟨dd, D, 0, false⟩ _ _ _ _ (hK.below hbD) hr4 HG0.out).mono ?_
  rw [HB0.out]
  rintro e w5 ⟨rfl, hb5⟩
  have hk5 := hk4.below hb5 hk4.lt
  have hbE := below_step hbD hb5
  have hz5 := hb5.size
  have hr5 := hr4.below hb5
  clear e0 e1 e2 e3 hk4 hbD hr4 hb24
  have hal6 := (Below.refl w5.heap.size w5).alloc (Nat.le_refl _) (.cells #[.string (str dd), .slice A2 N c2, .int .i64 0, .bool false] 24)
  have hc6 := Blk.new w5 24 [.string (str dd), .slice A2 N c2, .int .i64 0, .bool false]
  have hk6 := hk5.below hal6 hk5.lt
  have hbF := below_step hbE hal6
  have hr6 := hr5.below hal6
  have e0 := hk5.cell 0
  have e1 := hk5.cell 1
  have e2 := hk5.cell 2
  have e3 := hk5.cell 3
  have d0' := hk6.cell 0
  simp only [List.getElem?_cons_succ, List.getElem?_cons_zero] at e0 e1 e2 e3 d0'
  obtain ⟨c7, w7, hrun7, hr7, hb7, -⟩ := run_str_bytes (P := Tryd.prog) Tryd.underlying9 Tryd.underlying22 Tryd.underlying5 (w5.alloc (.cells #[.string (str dd), .slice A2 N c2, .int .i64 0, .bool false] 24)) dd hdx
  rw [HDG.out] at hrun7 hr7
  obtain ⟨gc, hgc⟩ : ∃ g, w5.heap.size = g := ⟨_, rfl⟩
  have hgec : w.heap.size ≤ gc := by rw [← hgc]; exact hbE.size
  have HF2 : Hid (∀ a : Addr, A2 = some a → a.block ≠ gc ∧ a.block < gc) := fun a ha => by
    have q1 := (HF2'.out a ha).2
    have q2 : w3.heap.size ≤ (w3.alloc (.cells #[.string (str dd), .slice A2 N c2, .int .i64 0, .bool false] 24)).heap.size := by simp
    exact ⟨by omega, by omega⟩
  rw [hgc] at hc6
  have hc7 := hc6.below hb7 hc6.lt
  have hbG := below_step hbF hb7
  have hr7b := hr6.below hb7
  have hsz6 : (w5.alloc (.cells #[.string (str dd), .slice A2 N c2, .int .i64 0, .bool false] 24)).heap.size = gc + 1 := by rw [← hgc]; simp
  rw [hsz6] at hr7
  have htu := turned_any (some ⟨gc + 1, 0, none⟩) 64 c7 dd k 1 p k1 k2 w7 hr7 (by omega) (by omega) Hp hpl
  rw [HT.out, show y8 1 = 1 from rfl] at htu
  have HTU := Lib.hid htu
  clear htu hk5 hk6 hbE hbF hr5 hr6 hal6 hr7
  go_wp2_with fail
  with_reducible refine HTU.out.mono ?_
  rintro e w8 ⟨v8, rfl, hown8, hb8⟩
  obtain ⟨A8, c8, rfl, hr8⟩ := own_rd hown8
  have hr8' : Rd w8 1 A8 t.length c8 (t.map bv8) := by rw [HTL.out]; exact hr8
  have ks := run_bytes_str (P := Tryd.prog) Tryd.underlying22 Tryd.underlying5 Tryd.underlying9 hr8'
  rw [HTL.out] at ks
  have hc8 := hc7.below hb8 hc7.lt
  have hbH := below_step hbG hb8
  have hb28 := hr7b.below hb8
  have c0 := hc8.cell 0
  have f0 := hc8.frozen 0
  have hc9 := hc8.put 0 (.string (str t))
  have hbI := hbH.setCell (p := ⟨gc, 0, none⟩) hgec (.string (str t))
  simp only [List.set_cons_zero] at hc9
  simp only [List.getElem?_cons_zero] at c0
  have hr9 : Rd (w8.setCell ⟨gc, 0, none⟩ (.string (str t))) 1 A2 N c2 (D.map bv8) := hb28.keepLt fun a ha _ => Below.heap_setCell w8 ⟨gc, 0, none⟩ _ a.block (by have := (HF2.out a ha).2; show a.block ≠ gc; omega)
  have u0 := hc9.cell 0
  have u1 := hc9.cell 1
  have u2 := hc9.cell 2
  have u3 := hc9.cell 3
  simp only [List.getElem?_cons_succ, List.getElem?_cons_zero] at u0 u1 u2 u3
  clear hr8 hr8' hown8 hc7 hc8 hbG hbH hr7b hb28 hb8 HTU e0 e1 e2 e3 d0' hrun7
  rcases hBt with rfl | rfl
  · go_wp2_with fail
    with_reducible refine (right_any ⟨t, D, 0, false⟩ _ _ _ _ (hK.below hbI) hr9 HGT.out).mono ?_
    rw [HET.out]
    rintro e w10 ⟨rfl, hb10⟩
    go_wp2
    go_ret
    exact ⟨by simp, below_step hbI hb10⟩
  · go_wp2_with fail
    with_reducible refine (right_any ⟨t, D, 0, false⟩ _ _ _ _ (hK.below hbI) hr9 HGT.out).mono ?_
    rw [HET.out]
    rintro e w10 ⟨rfl, hb10⟩
    have hc10 := hc9.below hb10 hc9.lt
    have hbJ := below_step hbI hb10
    have hr10 := hr9.below hb10
    have u0 := hc10.cell 0
    have u1 := hc10.cell 1
    have u2 := hc10.cell 2
    have u3 := hc10.cell 3
    simp only [List.getElem?_cons_succ, List.getElem?_cons_zero] at u0 u1 u2 u3
    go_wp2_with fail
    with_reducible refine (right_any ⟨t, D, 0, false⟩ _ _ _ _ (hK.below hbJ) hr10 HGT.out).mono ?_
    rw [HET.out]
    rintro e w11 ⟨rfl, hb11⟩
    go_wp2
    go_ret
    exact ⟨by simp, below_step hbJ hb11⟩
end Go.Proofs.YtbnjbjdkajjfdaaDoor
