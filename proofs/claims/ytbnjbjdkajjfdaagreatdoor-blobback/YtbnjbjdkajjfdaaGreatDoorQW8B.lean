/- The law BlobBack: the walk. -/
import Derived.Test.YtbnjbjdkajjfdaaGreatDoorGU
import Derived.Test.YtbnjbjdkajjfdaaGreatDoorGU
import Derived.Test.YtbnjbjdkajjfdaaGreatDoorGU
import Derived.Test.YtbnjbjdkajjfdaaGreatDoorQVz
namespace Go.Proofs.YtbnjbjdkajjfdaaGreatDoor
open Go.RowKit
def newT : List UInt8 := [110, 101, 119, 32, 97, 110, 100, 32, 110, 101, 118, 101, 114, 32, 101, 108, 115, 101]
theorem newT_str : (⟨#[110, 101, 119, 32, 97, 110, 100, 32, 110, 101, 118, 101, 114, 32, 101, 108, 115, 101]⟩ : ByteArray) = str newT := rfl
set_option maxRecDepth 100000 in
set_option maxHeartbeats 2000000 in
theorem blobBack_walk (A : Option Addr) (n c : Nat) (l : List Rw) (q : Rw) (w : World) (hK : Kon w) (hr : Rd w 4 A n c (rcs l)) (hg : ∀ p ∈ l, p.good) (hn : n ≤ 4294967296000) (hq : q.good) :
    Calls Tryz.prog 3 #[.slice A n c, .agg #[.int .i64 q.kd, .int .i64 q.ra, .int .i64 q.rb, .string (str q.tx)]] w fun e w' => e = .returned (.bool true) ∧ Below w.heap.size w w' := by
  obtain ⟨i0, hi0, hz0, hz1, hz2⟩ := info_parts u8_info
  have hdat : ∀ W : World, Calls Tryz.prog 5 #[.agg #[.int .i64 q.kd, .int .i64 q.ra, .int .i64 q.rb, .string (str q.tx)], .int .i64 60] W (GivesRo (dat q 60) W) := fun W => data_room q 60 W hq.2.2.2 (by omega)
  have hdl := dat_le q 60
  generalize dat q 60 = d0 at *
  have HDT := Lib.hid hdat
  obtain ⟨D, hD⟩ : ∃ D, d0 ++ newT = D := ⟨_, rfl⟩
  have hdi : Hid (∀ (A : Option Addr) (n c : Nat) (W : World), Rd W 1 A n c (D.map bv8) → n ≤ 140737488351232 → Calls Tryz.prog 7 #[.slice A n c] W fun e w' => e = .returned (.string (str (dig D))) ∧ Below W.heap.size W w') := fun A n c W hr hz => digest_ok A n c D W hr hz
  have hnt : newT.length = 18 := rfl
  have hDl : D.length ≤ 78 := by rw [← hD, List.length_append, hnt]; omega
  have hX : ∀ L : List Bl, bsErr L = 0 → L.length ≤ 12 → L.any (fun x => x.dg == dig D) = false → ∃ X, bPut L D = (0, X, dig D) ∧ bPut X D = (0, X, dig D) ∧ bDrop X (dig D) = (0, L) ∧ bDrop L (dig D) = (5, []) ∧ ∀ b ∈ X, b.good := fun L h1 h2 h3 => by
    have hn := not_there h3
    have hi := bIns_err (D := D) h1 (by omega) (by omega) hn
    exact ⟨bIns L D, put_first h1 (by omega) (by omega) hn, put_again hi (by omega), drop_new hi, drop_none_eq h1 hn, fun b hb => fine_good_bl ((bsErr_zero.1 hi).2.1 b hb)⟩
  generalize dig D = dd at *
  have HX := Lib.hid hX
  clear hX
  have HDD := Lib.hid hD
  have HNT := Lib.hid hnt
  have hfd := store_field
  generalize q.kd = kd at *
  generalize q.ra = ra at *
  generalize q.rb = rb at *
  generalize q.tx = tx at *
  have hal := (Below.refl w.heap.size w).alloc (Nat.le_refl _) (.cells #[.int .i64 kd, .int .i64 ra, .int .i64 rb, .string (str tx)] 24)
  have hbk := Blk.new w 24 [.int .i64 kd, .int .i64 ra, .int .i64 rb, .string (str tx)]
  have hr1 := hr.below hal
  clear hdat hD hq hr
  go_enter Tryz.func3, Tryz.ntmps3
  go_wp2_with fail
  with_reducible refine (store_blobs _ _ _ _ _ hr1 hg hn).mono ?_
  rintro e w1 ⟨A1, c1, L, A2, n2, c2, vr, vk, rfl, hN1, hS, hb1⟩
  have hL := hS.len
  have rL := hN1.rd
  have HS := Lib.hid hS
  have hbA := below_step hal hb1
  have hbk1 := hbk.below hb1 hbk.lt
  have e0 := hbk1.cell 0
  have e1 := hbk1.cell 1
  have e2 := hbk1.cell 2
  have e3 := hbk1.cell 3
  simp only [List.getElem?_cons_succ, List.getElem?_cons_zero] at e0 e1 e2 e3
  clear hN1 hr1 hg hS hbk hal hb1
  go_wp2_with fail
  with_reducible refine (HDT.out _).mono ?_
  rintro e w2 ⟨A3, n3, c3, rfl, hR3, hb2⟩
  obtain rfl := hR3.rd.len
  have hbB := below_step hbA hb2
  have hsx := src_str (P := Tryz.prog) (w := w2) Tryz.underlying9 newT
  have hln : d0.length + newT.length ≤ 1000000 := by rw [HNT.out]; omega
  clear e0 e1 e2 e3 hbk1
  go_wp2_with (at_builtin; refine wpList_append_by rfl (.tmp 21) (.const (.string (str newT))) _ _ rfl Tryz.underlying30 hi0 hz0 hz1 hz2 rfl hR3 _ rfl hsx hb2.size hln ?_; rintro A4 c4 w3 ⟨hr3, hA4, hF4, hb3⟩)
  rw [HDD.out] at hr3
  replace hr3 : Rd w3 1 A4 (d0.length + 18) c4 (D.map bv8) := hr3
  obtain ⟨N, hN⟩ : ∃ N, d0.length + 18 = N := ⟨_, rfl⟩
  rw [hN] at hr3 ⊢
  have hN78 : N ≤ 78 := by omega
  have hb13 := hb2.trans hb3
  have hbC := below_step hbA hb13
  have rL3 := rL.below hb13
  clear hN hb2 hb3 hb13 hR3 hsx hln hbB hbA rL hF4 HDD HNT
  with_reducible refine (hdi.out _ _ _ _ hr3 (by omega)).mono ?_
  rintro e w4 ⟨rfl, hb4⟩
  have hbD := below_step hbC hb4
  have rL4 := rL3.below hb4
  have hr4 := hr3.below hb4
  clear hbC hb4 rL3 hr3
  obtain ⟨hv, hhv⟩ : ∃ b, L.any (fun x => x.dg == dd) = b := ⟨_, rfl⟩
  cases hv
  · obtain ⟨X, p1, p2, d1, d2, gX⟩ := HX.out L HS.out.err hL hhv
    have HP1 := Lib.hid p1
    have HP2 := Lib.hid p2
    have HD1 := Lib.hid d1
    have HD2 := Lib.hid d2
    have GX := Lib.hid gX
    clear p1 p2 d1 d2 gX
    go_wp2_with fail
    with_reducible refine (has_any _ _ _ _ _ _ rL4 false hhv).mono ?_
    rintro e w5 ⟨rfl, hb5⟩
    have hbE := below_step hbD hb5
    have rL5 := rL4.below hb5
    have hr5 := hr4.below hb5
    have h1 := put_any _ _ _ L _ _ _ D w5 (hK.below hbE) rL5 HS.out.good hr5
    rw [HP1.out] at h1
    have H1 := Lib.hid h1
    clear hbD rL4 hr4 hb5 h1 hhv
    go_wp2_with fail
    with_reducible refine H1.out.mono ?_
    rintro e w6 ⟨Ax, nx, cx, rfl, hNx, hb6⟩
    have hbF := below_step hbE hb6
    have rL6 := rL5.below hb6
    have hr6 := hr5.below hb6
    have rX6 := hNx.rd
    have h2 := put_any _ _ _ X _ _ _ D w6 (hK.below hbF) rX6 GX.out hr6
    rw [HP2.out] at h2
    have H2 := Lib.hid h2
    clear hbE rL5 hr5 hb6 h2 H1 hNx
    go_wp2_with fail
    with_reducible refine H2.out.mono ?_
    rintro e w7 ⟨Ay, ny, cy, rfl, hNy, hb7⟩
    have hbG := below_step hbF hb7
    have rL7 := rL6.below hb7
    have rX7 := rX6.below hb7
    have rY7 := hNy.rd
    have h3 := drop_any _ _ _ X dd w7 (hK.below hbG) rX7 GX.out
    rw [HD1.out] at h3
    have H3 := Lib.hid h3
    clear hbF rL6 hr6 rX6 hb7 h3 H2 hNy
    go_wp2_with fail
    with_reducible refine H3.out.mono ?_
    rintro e w8 ⟨Az, nz, cz, rfl, hNz, hb8⟩
    have hbH := below_step hbG hb8
    have rL8 := rL7.below hb8
    have rX8 := rX7.below hb8
    have rY8 := rY7.below hb8
    have rZ8 := hNz.rd
    have h4 := drop_any _ _ _ L dd w8 (hK.below hbH) rZ8 HS.out.good
    rw [HD2.out] at h4
    have H4 := Lib.hid h4
    clear hbG rL7 rX7 rY7 hb8 h4 H3 hNz
    go_wp2_with fail
    with_reducible refine H4.out.mono ?_
    rintro e w9 ⟨Au, nu, cu, rfl, -, hb9⟩
    have hbI := below_step hbH hb9
    have rL9 := rL8.below hb9
    have rX9 := rX8.below hb9
    have rY9 := rY8.below hb9
    have rZ9 := rZ8.below hb9
    clear hbH rL8 rX8 rY8 rZ8 hb9 H4
    go_wp2_with fail
    with_reducible refine (stored_ok _ (hK.below hbI)).mono ?_
    rintro e w10 ⟨rfl, hb10⟩
    have hbJ := below_step hbI hb10
    go_wp2_with fail
    with_reducible refine (ksameBlobs_eq _ _ _ _ _ _ _ _ (rX9.below hb10) (rY9.below hb10)).mono ?_
    rintro e w11 ⟨rfl, hb11⟩
    have hbK := below_step hbJ hb11
    go_wp2_with fail
    with_reducible refine (ksameBlobs_eq _ _ _ _ _ _ _ _ ((rZ9.below hb10).below hb11) ((rL9.below hb10).below hb11)).mono ?_
    rintro e w12 ⟨rfl, hb12⟩
    go_wp2
    go_ret
    exact ⟨by simp, below_step hbK hb12⟩
  · go_wp2_with fail
    with_reducible refine (has_any _ _ _ _ _ _ rL4 true hhv).mono ?_
    rintro e w5 ⟨rfl, hb5⟩
    have hbE := below_step hbD hb5
    go_wp2_with fail
    with_reducible refine (stored_ok _ (hK.below hbE)).mono ?_
    rintro e w6 ⟨rfl, hb6⟩
    go_wp2
    go_ret
    exact ⟨by simp, below_step hbE hb6⟩
end Go.Proofs.YtbnjbjdkajjfdaaGreatDoor
