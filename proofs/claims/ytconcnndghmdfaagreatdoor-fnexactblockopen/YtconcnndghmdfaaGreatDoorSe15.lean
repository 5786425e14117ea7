/- Put together: PackN, RangeN. -/
import Derived.Test.YtconcnndghmdfaaGreatDoorSe9
import Derived.Test.YtconcnndghmdfaaGreatDoorSe11
import Derived.Test.YtconcnndghmdfaaGreatDoorSe12
import Derived.Deep.QuietTactic
namespace Go.Proofs.YtconcnndghmdfaaGreatDoor
/-- What a chance owes: a chance far from the middle has been bought by bits that cost less than two. -/
def oweTab : List (List Nat) := [[1787972, 1668615, 1618051, 1513231, 1454841, 1363320, 1278809, 1200659, 1151096, 1089330, 1025317, 965828, 910481, 858932, 823338, 777764, 735194, 695393, 658148, 623266, 590572, 559902, 537260, 509885, 486012, 461706, 438826, 417415, 397818, 379307, 361813, 345269, 331809, 316886, 312011, 298164, 285038, 278669, 266571, 255087, 244180, 233817, 227707, 218173, 209104],
  [200473, 192256, 185184, 177696, 172684, 165790, 159214, 152940, 146952, 141235, 135775, 130559, 125574, 121902, 117302, 112901, 108691, 104661, 100994, 97293, 93747, 92781, 89428, 86215, 83134, 81799, 79395, 76598, 73913, 71337, 68863, 67509, 65190, 62961, 60820, 58762, 56783, 54880, 53050, 51884, 50170, 48706, 47112, 45577, 44113],
  [42767, 41468, 40215, 39005, 38089, 36954, 35857, 34798, 34528, 33515, 32536, 31589, 30675, 30288, 29418, 28576, 27762, 26974, 26319, 25579, 25172, 24469, 23789, 23130, 22492, 21874, 21276, 20697, 20135, 19769, 19236, 18720, 18220, 17735, 17298, 16841, 16398, 15969, 15552, 15148, 15054, 14756, 14376, 14007, 13648],
  [13300, 13162, 12829, 12505, 12190, 11885, 11588, 11300, 11020, 10872, 10604, 10383, 10129, 9882, 9646, 9429, 9218, 9013, 8813, 8675, 8484, 8298, 8116, 7939, 7766, 7598, 7434, 7395, 7236, 7081, 6930, 6783, 6666, 6525, 6467, 6331, 6198, 6069, 5943, 5819, 5699, 5581, 5467, 5403, 5293],
  [5185, 5079, 4977, 4885, 4787, 4691, 4597, 4506, 4416, 4356, 4270, 4186, 4103, 4023, 4005, 3927, 3851, 3776, 3703, 3632, 3562, 3494, 3467, 3401, 3349, 3285, 3223, 3164, 3110, 3057, 3005, 2955, 2924, 2875, 2827, 2780, 2734, 2689, 2644, 2601, 2558, 2516, 2475, 2435, 2405],
  [2366, 2357, 2319, 2281, 2245, 2209, 2174, 2139, 2105, 2072, 2058, 2025, 1993, 1962, 1931, 1905, 1875, 1846, 1818, 1790, 1762, 1746, 1719, 1693, 1667, 1642, 1617, 1593, 1569, 1545, 1522, 1499, 1477, 1472, 1450, 1434, 1413, 1392, 1372, 1354, 1337, 1320, 1303, 1295, 1278],
  [1262, 1246, 1230, 1215, 1200, 1185, 1170, 1155, 1141, 1127, 1117, 1104, 1090, 1077, 1063, 1050, 1038, 1025, 1013, 1000, 997, 985, 973, 962, 950, 941, 929, 918, 908, 897, 886, 881, 871, 861, 851, 841, 831, 821, 812, 802, 793, 784, 775, 766, 760],
  [752, 743, 735, 728, 721, 714, 707, 705, 699, 692, 686, 679, 673, 667, 661, 654, 648, 642, 636, 633, 627, 622, 616, 610, 605, 599, 594, 589, 583, 578, 573, 568, 563, 559, 554, 549, 544, 539, 535, 533, 528, 524, 519, 515, 510],
  [506, 501, 497, 493, 489, 484, 480, 478, 474, 470, 466, 463, 460, 457, 454, 451, 448, 445, 442, 439, 436, 433, 430, 428, 425, 422, 421, 418, 416, 413, 410, 408, 405, 403, 400, 398, 395, 392, 390, 388, 386, 383, 381, 379, 376],
  [374, 372, 369, 367, 365, 363, 360, 358, 356, 354, 352, 350, 347, 347, 345, 342, 340, 339, 338, 336, 335, 333, 332, 331, 329, 328, 327, 325, 324, 323, 321, 320, 319, 317, 316, 315, 314, 312, 311, 310, 309, 307, 306, 305, 304],
  [303, 302, 301, 299, 298, 297, 296, 295, 294, 292, 291, 290, 289, 288, 287, 286, 285, 284, 282, 281, 280, 280, 279, 279, 278, 278, 277, 277, 276, 275, 275, 274, 274, 273, 273, 272, 272, 271, 271, 270, 270, 269, 269, 268, 268],
  [267, 267, 266, 266, 265, 265, 264, 264, 263, 263, 262, 262, 261, 261, 260, 260, 259, 259, 258, 258, 257, 257, 256, 256, 256, 256, 256, 256, 256, 256, 256, 256, 256, 256, 256, 256, 256, 256, 256, 256, 256, 256, 256, 256, 256],
  [256, 256, 256, 256, 256, 256, 256, 256, 256, 256, 256, 256, 256, 256, 256, 256, 256, 256, 256, 256, 256, 256, 256, 256, 256, 256, 256, 256, 256, 256, 256, 256, 256, 256, 256, 256, 256, 256, 256, 256, 256, 256, 256, 256, 256],
  [256, 256, 256, 256, 256, 256, 256, 256, 256, 256, 256, 256, 256, 256, 256, 256, 256, 256, 256, 256, 256, 256, 256, 256, 256, 256, 256, 256, 256, 256, 256, 256, 256, 256, 256, 256, 256, 256, 256, 256, 256, 256, 256, 256, 256],
  [256, 256, 256, 256, 256, 256, 256, 256, 256, 256, 256, 256, 256, 256, 256, 256, 256, 256, 256, 256, 256, 256, 256, 256, 256, 256, 256, 256, 256, 256, 256, 256, 256, 256, 256, 256, 256, 256, 256, 256, 256, 256, 256, 256, 256],
  [256, 256, 256, 256, 256, 256, 256, 256, 256, 256, 256, 256, 256, 256, 256, 256, 256, 256, 256, 256, 256, 256, 256, 256, 256, 256, 256, 256, 256, 256, 256, 256, 256, 256, 256, 256, 256, 256, 256, 256, 256, 256, 256, 256, 256],
  [256, 256, 256, 256, 256, 256, 256, 256, 256, 256, 256, 256, 256, 256, 256, 256, 256, 256, 256, 256, 256, 256, 256, 256, 256, 256, 256, 256, 256, 256, 256, 256, 256, 256, 256, 256, 256, 256, 256, 256, 256, 256, 256, 256, 256],
  [256, 256, 256, 256, 256, 256, 256, 256, 256, 256, 256, 256, 256, 256, 256, 256, 256, 256, 256, 256, 256, 256, 256, 256, 256, 256, 256, 256, 256, 256, 256, 256, 256, 256, 256, 256, 256, 256, 256, 256, 256, 256, 256, 256, 256],
  [256, 256, 256, 256, 256, 256, 256, 256, 256, 256, 256, 256, 256, 256, 256, 256, 256, 256, 256, 256, 256, 256, 256, 256, 256, 256, 256, 256, 256, 256, 256, 256, 256, 256, 256, 256, 256, 256, 256, 256, 256, 256, 256, 256, 256],
  [256, 256, 256, 256, 256, 256, 256, 256, 256, 256, 256, 256, 256, 256, 256, 256, 256, 256, 256, 256, 256, 256, 256, 256, 256, 256, 256, 256, 256, 256, 256, 256, 256, 256, 256, 256, 256, 256, 256, 256, 256, 256, 256, 256, 256],
  [256, 256, 256, 256, 256, 256, 256, 256, 256, 256, 256, 256, 256, 256, 256, 256, 256, 256, 256, 256, 256, 256, 256, 256, 256, 256, 256, 256, 256, 256, 256, 256, 256, 256, 256, 256, 256, 256, 256, 256, 256, 256, 256, 256, 256],
  [256, 256, 256, 256, 256, 256, 256, 256, 256, 256, 256, 256, 256, 256, 256, 256, 256, 256, 256, 256, 256, 256, 256, 256, 256, 256, 256, 256, 256, 256, 256, 256, 256, 256, 256, 256, 256, 256, 256, 256, 256, 256, 256, 256, 256],
  [256, 256, 256, 256, 256, 256, 256, 256, 256, 256, 256, 256, 256, 256, 256, 256, 256, 256, 256, 256, 256, 256, 256, 256, 256, 256, 256, 256, 256, 256, 256, 256, 256, 256, 256, 256, 256, 256, 256, 256, 256, 256, 256, 256, 256],
  [256, 256, 256, 256, 256, 256, 256, 256, 256, 256, 256, 256, 256, 256, 256, 256, 256, 256, 256, 256, 256, 256, 256, 256, 256, 256, 256, 256, 256, 256, 256, 256, 256, 256, 256, 256, 256, 256, 256, 256, 256, 256, 256, 256, 256],
  [256, 256, 256, 256, 256, 256, 256, 256, 256, 256, 256, 256, 256, 256, 256, 256, 256, 256, 256, 256, 256, 256, 256, 256, 256, 256, 256, 256, 256, 256, 256, 256, 256, 256, 256, 256, 256, 256, 256, 256, 256, 256, 256, 256, 256],
  [256, 256, 256, 256, 256, 256, 256, 256, 256, 256, 256, 256, 256, 256, 256, 256, 256, 256, 256, 256, 256, 256, 256, 256, 256, 256, 256, 256, 256, 256, 256, 256, 256, 256, 256, 256, 256, 256, 256, 256, 256, 256, 256, 256, 256],
  [256, 256, 256, 256, 256, 256, 256, 256, 256, 256, 256, 256, 256, 256, 256, 256, 256, 256, 256, 256, 256, 256, 256, 256, 256, 256, 256, 256, 256, 256, 256, 256, 256, 256, 256, 256, 256, 256, 256, 256, 256, 256, 256, 256, 256],
  [256, 256, 256, 256, 256, 256, 256, 256, 256, 256, 256, 256, 256, 256, 256, 256, 256, 256, 256, 256, 256, 256, 256, 256, 256, 256, 256, 256, 256, 256, 256, 256, 256, 256, 256, 256, 256, 256, 256, 256, 256, 256, 256, 256, 256],
  [256, 256, 256, 256, 256, 256, 256, 256, 256, 256, 256, 256, 256, 256, 256, 256, 256, 256, 256, 256, 256, 256, 256, 256, 256, 256, 256, 256, 256, 256, 256, 256, 256, 256, 256, 256, 256, 256, 256, 256, 256, 256, 256, 256, 256],
  [256, 256, 256, 256, 256, 256, 256, 256, 256, 256, 256, 256, 256, 256, 256, 256, 256, 256, 256, 256, 256, 256, 256, 256, 256, 256, 256, 256, 256, 256, 256, 256, 256, 256, 256, 256, 256, 256, 256, 256, 256, 256, 256, 256, 256],
  [256, 256, 256, 256, 256, 256, 256, 256, 256, 256, 256, 256, 256, 256, 256, 256, 256, 256, 256, 256, 256, 256, 256, 256, 256, 256, 256, 256, 256, 256, 256, 256, 256, 256, 256, 256, 256, 256, 256, 256, 256, 256, 256, 256, 256],
  [256, 256, 256, 256, 256, 256, 256, 256, 256, 256, 256, 256, 256, 256, 256, 256, 256, 256, 256, 256, 256, 256, 256, 256, 256, 256, 256, 256, 256, 256, 256, 256, 256, 256, 256, 256, 256, 256, 256, 256, 256, 256, 256, 256, 256],
  [256, 256, 256, 256, 256, 256, 256, 256, 256, 256, 256, 256, 256, 256, 256, 256, 256, 256, 256, 256, 256, 256, 256, 256, 256, 256, 256, 256, 256, 256, 257, 257, 258, 258, 259, 259, 260, 260, 261, 261, 262, 262, 263, 263, 264],
  [264, 265, 265, 266, 266, 267, 267, 268, 268, 269, 269, 270, 270, 271, 271, 272, 272, 273, 273, 274, 274, 275, 275, 276, 277, 277, 278, 278, 279, 279, 280, 280, 281, 282, 284, 285, 286, 287, 288, 289, 290, 291, 292, 294, 295],
  [296, 297, 298, 299, 301, 302, 303, 304, 305, 306, 307, 309, 310, 311, 312, 314, 315, 316, 317, 319, 320, 321, 323, 324, 325, 327, 328, 329, 331, 332, 333, 335, 336, 338, 339, 340, 342, 345, 347, 347, 350, 352, 354, 356, 358],
  [360, 363, 365, 367, 369, 372, 374, 376, 379, 381, 383, 386, 388, 390, 392, 395, 398, 400, 403, 405, 408, 410, 413, 416, 418, 421, 422, 425, 428, 430, 433, 436, 439, 442, 445, 448, 451, 454, 457, 460, 463, 466, 470, 474, 478],
  [480, 484, 489, 493, 497, 501, 506, 510, 515, 519, 524, 528, 533, 535, 539, 544, 549, 554, 559, 563, 568, 573, 578, 583, 589, 594, 599, 605, 610, 616, 622, 627, 633, 636, 642, 648, 654, 661, 667, 673, 679, 686, 692, 699, 705],
  [707, 714, 721, 728, 735, 743, 752, 760, 766, 775, 784, 793, 802, 812, 821, 831, 841, 851, 861, 871, 881, 886, 897, 908, 918, 929, 941, 950, 962, 973, 985, 997, 1000, 1013, 1025, 1038, 1050, 1063, 1077, 1090, 1104, 1117, 1127, 1141, 1155],
  [1170, 1185, 1200, 1215, 1230, 1246, 1262, 1278, 1295, 1303, 1320, 1337, 1354, 1372, 1392, 1413, 1434, 1450, 1472, 1477, 1499, 1522, 1545, 1569, 1593, 1617, 1642, 1667, 1693, 1719, 1746, 1762, 1790, 1818, 1846, 1875, 1905, 1931, 1962, 1993, 2025, 2058, 2072, 2105, 2139],
  [2174, 2209, 2245, 2281, 2319, 2357, 2366, 2405, 2435, 2475, 2516, 2558, 2601, 2644, 2689, 2734, 2780, 2827, 2875, 2924, 2955, 3005, 3057, 3110, 3164, 3223, 3285, 3349, 3401, 3467, 3494, 3562, 3632, 3703, 3776, 3851, 3927, 4005, 4023, 4103, 4186, 4270, 4356, 4416, 4506],
  [4597, 4691, 4787, 4885, 4977, 5079, 5185, 5293, 5403, 5467, 5581, 5699, 5819, 5943, 6069, 6198, 6331, 6467, 6525, 6666, 6783, 6930, 7081, 7236, 7395, 7434, 7598, 7766, 7939, 8116, 8298, 8484, 8675, 8813, 9013, 9218, 9429, 9646, 9882, 10129, 10383, 10604, 10872, 11020, 11300],
  [11588, 11885, 12190, 12505, 12829, 13162, 13300, 13648, 14007, 14376, 14756, 15054, 15148, 15552, 15969, 16398, 16841, 17298, 17735, 18220, 18720, 19236, 19769, 20135, 20697, 21276, 21874, 22492, 23130, 23789, 24469, 25172, 25579, 26319, 26974, 27762, 28576, 29418, 30288, 30675, 31589, 32536, 33515, 34528, 34798],
  [35857, 36954, 38089, 39005, 40215, 41468, 42767, 44113, 45577, 47112, 48706, 50170, 51884, 53050, 54880, 56783, 58762, 60820, 62961, 65190, 67509, 68863, 71337, 73913, 76598, 79395, 81799, 83134, 86215, 89428, 92781, 93747, 97293, 100994, 104661, 108691, 112901, 117302, 121902, 125574, 130559, 135775, 141235, 146952, 152940],
  [159214, 165790, 172684, 177696, 185184, 192256, 200473, 209104, 218173, 227707, 233817, 244180, 255087, 266571, 278669, 285038, 298164, 312011, 316886, 331809, 345269, 361813, 379307, 397818, 417415, 438826, 461706, 486012, 509885, 537260, 559902, 590572, 623266, 658148, 695393, 735194, 777764, 823338, 858932, 910481, 965828, 1025317, 1089330, 1151096, 1200659],
  [1278809, 1363320, 1454841, 1513231, 1618051, 1668615, 1787972]]
def owe (p : Nat) : Nat := (oweTab.getD ((p - 31) / 45) []).getD ((p - 31) % 45) 256
def oweOk (p : Nat) : Bool := decide (256 ≤ owe p) && (decide (8192 * 2048 * owe (chNot p) ≤ 8191 * p * 4 * owe p) && decide (8192 * 2048 * owe (chOne p) ≤ 8191 * (2048 - p) * 4 * owe p))
set_option maxRecDepth 100000 in
theorem owe_all : (List.range 1987).all (fun i => oweOk (31 + i)) = true := by decide +kernel
theorem owe_at (p : Nat) (h : 31 ≤ p ∧ p ≤ 2017) : 256 ≤ owe p ∧ 8192 * 2048 * owe (chNot p) ≤ 8191 * p * 4 * owe p ∧ 8192 * 2048 * owe (chOne p) ≤ 8191 * (2048 - p) * 4 * owe p := by
  have h1 := List.all_eq_true.1 owe_all (p - 31) (List.mem_range.2 (by omega))
  rw [show 31 + (p - 31) = p by omega] at h1
  unfold oweOk at h1
  simp only [Bool.and_eq_true, decide_eq_true_eq] at h1
  exact ⟨h1.1, h1.2.1, h1.2.2⟩
theorem owe_mid : owe 1024 = 256 := by decide +kernel
/-- What n chances owe together. -/
def oweN (ch : Nat → Nat) : Nat → Nat
  | 0 => 1
  | n + 1 => oweN ch n * owe (ch n)
theorem oweN_congr (ch dh : Nat → Nat) : ∀ n, (∀ j, j < n → ch j = dh j) → oweN ch n = oweN dh n
  | 0, _ => rfl
  | n + 1, h => by
    show oweN ch n * owe (ch n) = oweN dh n * owe (dh n)
    rw [oweN_congr ch dh n (fun j hj => h j (by omega)), h n (by omega)]
theorem oweN_set (ch : Nat → Nat) (c p : Nat) : ∀ n, c < n → oweN (setCh ch c p) n * owe (ch c) = oweN ch n * owe p
  | 0, h => by omega
  | n + 1, h => by
    show oweN (setCh ch c p) n * owe (setCh ch c p n) * owe (ch c) = oweN ch n * owe (ch n) * owe p
    by_cases e : n = c
    · subst e
      have e1 : setCh ch n p n = p := if_pos rfl
      rw [e1, oweN_congr (setCh ch n p) ch n (fun j hj => if_neg (by omega)), Nat.mul_assoc, Nat.mul_assoc, Nat.mul_comm (owe p)]
    · have e1 : setCh ch c p n = ch n := if_neg e
      rw [e1, Nat.mul_right_comm, oweN_set ch c p n (by omega), Nat.mul_right_comm]
theorem oweN_ge (ch : Nat → Nat) (h : ∀ c, 31 ≤ ch c ∧ ch c ≤ 2017) : ∀ n, 256 ^ n ≤ oweN ch n
  | 0 => Nat.le_refl _
  | n + 1 => by
    rw [Nat.pow_succ]
    exact Nat.mul_le_mul (oweN_ge ch h n) (owe_at _ (h n)).1
theorem oweN_mid : ∀ n, oweN (fun _ => 1024) n = 256 ^ n
  | 0 => rfl
  | n + 1 => by
    show oweN (fun _ => 1024) n * owe 1024 = _
    rw [oweN_mid n, owe_mid, Nat.pow_succ]
/-- Behind k bits. -/
structure Paid (M : Nat) (s : RC) (k : Nat) : Prop where
  le : 256 ^ s.n * oweN s.ch M * 2147483648 ≤ s.size * 4 ^ k * 256 ^ M
theorem paid_0 (M : Nat) : Paid M rc0 0 := by
  constructor
  show 256 ^ 0 * oweN (fun _ => 1024) M * 2147483648 ≤ 4294967295 * 4 ^ 0 * 256 ^ M
  rw [oweN_mid]
  generalize 256 ^ M = z
  simp only [Nat.pow_zero, Nat.one_mul, Nat.mul_one]
  omega
theorem paid_num {A O O' Z z T T' K G D E q B : Nat} (hD : 0 < D) (hT : 0 < T) (hq : D * T' ≤ E * q * 4 * T) (hz : Z * (E * q) ≤ z * D) (he : O' * T = O * T') (h : A * O * B ≤ Z * K * G) : A * O' * B ≤ z * (K * 4) * G := by
  have a1 : D * (Z * T') ≤ D * (z * 4 * T) := by
    calc D * (Z * T') = Z * (D * T') := by ac_rfl
      _ ≤ Z * (E * q * 4 * T) := Nat.mul_le_mul_left _ hq
      _ = Z * (E * q) * (4 * T) := by ac_rfl
      _ ≤ z * D * (4 * T) := Nat.mul_le_mul_right _ hz
      _ = D * (z * 4 * T) := by ac_rfl
  have a2 : Z * T' ≤ z * 4 * T := Nat.le_of_mul_le_mul_left a1 hD
  have a3 : A * O' * B * T ≤ z * (K * 4) * G * T := by
    calc A * O' * B * T = A * (O' * T) * B := by ac_rfl
      _ = A * O * B * T' := by rw [he]; ac_rfl
      _ ≤ Z * K * G * T' := Nat.mul_le_mul_right _ h
      _ = Z * T' * (K * G) := by ac_rfl
      _ ≤ z * 4 * T * (K * G) := Nat.mul_le_mul_right _ a2
      _ = z * (K * 4) * G * T := by ac_rfl
  exact Nat.le_of_mul_le_mul_right a3 hT
theorem paid_part (M : Nat) (s : RC) (c k q p' : Nat) (low n2 : Nat) (hn2 : n2 = s.n) (sz : Nat) (hc : c < M) (hT : 0 < owe (s.ch c)) (hq : 8192 * 2048 * owe p' ≤ 8191 * q * 4 * owe (s.ch c)) (hz : s.size * (8191 * q) ≤ sz * (8192 * 2048)) (h : Paid M s k) :
    Paid M ⟨sz, setCh s.ch c p', low, n2⟩ (k + 1) := by
  subst hn2
  constructor
  show 256 ^ s.n * oweN (setCh s.ch c p') M * 2147483648 ≤ sz * 4 ^ (k + 1) * 256 ^ M
  rw [Nat.pow_succ]
  exact paid_num (by decide) hT hq hz (oweN_set s.ch c p' M hc) h.le
theorem paid_norm (M : Nat) (s : RC) (k : Nat) (h : Paid M s k) : Paid M (norm s) k := by
  unfold norm
  split
  · constructor
    show 256 ^ (s.n + 1) * oweN s.ch M * 2147483648 ≤ 256 * s.size * 4 ^ k * 256 ^ M
    have := Nat.mul_le_mul_left 256 h.le
    rw [Nat.pow_succ, Nat.mul_comm (256 ^ s.n) 256]
    simpa only [Nat.mul_assoc] using this
  · exact h
theorem paid_step (M : Nat) (s : RC) (x : Nat × Bool) (k : Nat) (hs : RcOk s) (hc : x.1 < M) (h : Paid M s k) : Paid M (step s x.1 x.2) (k + 1) := by
  obtain ⟨c, one⟩ := x
  have hc' : c < M := hc
  obtain ⟨t0, t1, t2⟩ := owe_at _ (hs.ch c)
  obtain ⟨c1, c2⟩ := hs.ch c
  have hlo := hs.lo
  apply paid_norm
  obtain ⟨p, hp⟩ : ∃ p, p = s.ch c := ⟨_, rfl⟩
  obtain ⟨g, hg⟩ : ∃ g, g = s.size / 2048 := ⟨_, rfl⟩
  have hg1 : s.size < 2048 * g + 2048 := by omega
  have hg2 : 2048 * g ≤ s.size := by omega
  have hg3 : 8192 ≤ g := by omega
  have hb : bound s c = g * p := by unfold bound; rw [hg, hp]
  cases one
  · refine paid_part M s c k p _ _ _ rfl _ hc' (by omega) (by rw [hp]; exact t1) ?_ h
    rw [hb]
    have f1 : s.size * 8191 ≤ g * (8192 * 2048) := by omega
    have f2 := Nat.mul_le_mul_right p f1
    calc s.size * (8191 * p) = s.size * 8191 * p := by rw [Nat.mul_assoc]
      _ ≤ g * (8192 * 2048) * p := f2
      _ = g * p * (8192 * 2048) := Nat.mul_right_comm _ _ _
  · refine paid_part M s c k (2048 - p) _ _ _ rfl _ hc' (by omega) (by rw [hp]; exact t2) ?_ h
    rw [hb]
    have hp2 : p ≤ 2048 := by omega
    obtain ⟨r, hr⟩ : ∃ r, r = 2048 - p := ⟨_, rfl⟩
    rw [← hr]
    have e1 : g * p ≤ g * 2048 := Nat.mul_le_mul_left g hp2
    have e2 : g * p + g * r = g * 2048 := by rw [← Nat.mul_add]; congr 1; omega
    have e3 : s.size * r ≤ (s.size - g * p) * 2048 := by
      have f1 : s.size * r = (s.size - 2048 * g) * r + 2048 * g * r := by rw [← Nat.add_mul]; congr 1; omega
      have f2 : (s.size - 2048 * g) * r ≤ (s.size - 2048 * g) * 2048 := Nat.mul_le_mul_left _ (by omega)
      have f3 : 2048 * g * r = 2048 * (g * r) := Nat.mul_assoc _ _ _
      omega
    calc s.size * (8191 * r) = 8191 * (s.size * r) := by rw [Nat.mul_left_comm]
      _ ≤ 8192 * ((s.size - g * p) * 2048) := Nat.mul_le_mul (by decide) e3
      _ = (s.size - g * p) * (8192 * 2048) := by rw [Nat.mul_left_comm, Nat.mul_comm 8192 2048]
theorem paid_run (M : Nat) (l : List (Nat × Bool)) : ∀ s k, RcOk s → (∀ x ∈ l, x.1 < M) → Paid M s k → Paid M (run s l) (k + l.length) := by
  induction l with
  | nil => exact fun _ _ _ _ h => h
  | cons x l ih =>
    intro s k hs hl h
    have := ih (step s x.1 x.2) (k + 1) (step_ok s x.1 x.2 hs) (fun y hy => hl y (List.mem_cons_of_mem _ hy)) (paid_step M s x k hs (hl x (List.mem_cons_self ..)) h)
    have e : k + (x :: l).length = k + 1 + l.length := by rw [List.length_cons]; omega
    rw [e]
    exact this
/-- Of so many bits no more bytes come out than a quarter of them. -/
theorem run_few (M : Nat) (l : List (Nat × Bool)) (hl : ∀ x ∈ l, x.1 < M) : 4 * (run rc0 l).n ≤ l.length := by
  have h := paid_run M l rc0 0 rc0_ok hl (paid_0 M)
  rw [Nat.zero_add] at h
  have ho := run_ok l rc0 rc0_ok
  generalize run rc0 l = s at *
  replace h := h.le
  have h1 : 256 ^ s.n * 2147483648 * 256 ^ M ≤ 4294967295 * 4 ^ l.length * 256 ^ M := by
    have := Nat.le_trans (Nat.mul_le_mul_right 2147483648 (Nat.mul_le_mul_left (256 ^ s.n) (oweN_ge s.ch ho.ch M))) (Nat.le_trans h (Nat.mul_le_mul_right _ (Nat.mul_le_mul_right _ ho.hi)))
    rwa [Nat.mul_right_comm] at this
  have h2 : 256 ^ s.n * 2147483648 ≤ 4294967295 * 4 ^ l.length := Nat.le_of_mul_le_mul_right h1 (Nat.pow_pos (by decide))
  have h3 : 256 ^ s.n < 2 * 4 ^ l.length := by
    have h4 : 0 < 4 ^ l.length := Nat.pow_pos (by decide)
    omega
  have h5 : (2 : Nat) ^ (8 * s.n) < 2 ^ (2 * l.length + 1) := by
    have e1 : (2 : Nat) ^ (8 * s.n) = 256 ^ s.n := Nat.pow_mul 2 8 s.n
    have e2 : (2 : Nat) ^ (2 * l.length + 1) = 2 * 4 ^ l.length := by
      rw [Nat.pow_succ 2 (2 * l.length), Nat.mul_comm]
      exact congrArg (2 * ·) (Nat.pow_mul 2 2 l.length)
    rw [e1, e2]
    exact h3
  have h6 := (Nat.pow_lt_pow_iff_right (by decide : 1 < 2)).1 h5
  omega
theorem codeOf_few (l : List (Nat × Bool)) (hl : ∀ x ∈ l, x.1 < 1600) : (codeOf l).length ≤ l.length / 4 + 4 := by
  have := run_few 1600 l hl
  unfold codeOf
  rw [bytesOf_len]
  omega
theorem codeToks_len (T : Nat → UInt8) (N : Nat) (h : N ≤ 4000) : (codeOf (toksBits (parseL T N))).length ≤ 17004 := by
  have h1 := codeOf_few _ (toksBits_ctx (parseL T N))
  have h2 := toksBits_len (parseL T N)
  have h3 : (parseL T N).length ≤ N := parseG_len T N N 0
  omega
end Go.Proofs.YtconcnndghmdfaaGreatDoor
namespace Go.Proofs.YtconcnndghmdfaaGreatDoor
open Go.RowKit
/-- The byte j of a text, 0 behind it. -/
def tbN (t : ByteArray) (j : Nat) : Nat := (bF t j).toNat
theorem tbN_lt (t : ByteArray) (j : Nat) : tbN t j < 256 := (bF t j).toNat_lt
theorem tbN_far (t : ByteArray) (j : Nat) (h : t.size ≤ j) : tbN t j = 0 := by
  unfold tbN bF
  rw [List.getD_eq_getElem?_getD, List.getElem?_eq_none (by have e : t.data.toList.length = t.size := rfl; omega)]; rfl
theorem tbN_in (t : ByteArray) (j : Nat) (h : j < t.size) : (t[j].toNat : Nat) = tbN t j := by
  have h2 := bF_at t t.size rfl j h
  rw [List.getElem?_eq_getElem (by have e : t.data.toList.length = t.size := rfl; omega)] at h2
  unfold tbN
  rw [← Option.some.inj h2]; rfl
theorem or64 (x b : Nat) (hb : b < 256) : bits .or .u64 ((x : Int) * 256 % 18446744073709551616) (b : Int) = (((256 * x + b) % 18446744073709551616 : Nat) : Int) := by
  obtain ⟨y, hy⟩ : ∃ y, y = x % 72057594037927936 := ⟨_, rfl⟩
  have hy2 : y < 72057594037927936 := by omega
  have e : ((x : Int) * 256 % 18446744073709551616) = ((2 ^ 8 * y : Nat) : Int) := by omega
  have ho : 2 ^ 8 * y ||| b = 2 ^ 8 * y + b := (Nat.two_pow_add_eq_or_of_lt (by omega) _).symm
  have e2 : (256 * x + b) % 18446744073709551616 = 2 ^ 8 * y + b := by omega
  rw [e, e2]
  show IntKind.u64.wrap ((BitVec.ofInt 64 ((2 ^ 8 * y : Nat) : Int) ||| BitVec.ofInt 64 (b : Int)).toNat : Int) = _
  rw [BitVec.toNat_or, BitVec.ofInt_natCast, BitVec.ofInt_natCast, BitVec.toNat_ofNat, BitVec.toNat_ofNat, Nat.mod_eq_of_lt (show 2 ^ 8 * y < 2 ^ 64 by omega), Nat.mod_eq_of_lt (show b < 2 ^ 64 by omega), ho, IntKind.wrap_u64]
  omega
/-- What a decoder's block holds. -/
def decV (t : ByteArray) (at_ x size gc j : Nat) : Value := if j = 0 then .string t else if j = 1 then .int .i64 (at_ : Nat) else if j = 2 then .int .u64 (x : Nat) else if j = 3 then .int .u64 (size : Nat) else .slice (some ⟨gc, 0, none⟩) 1600 1600
theorem dec_cells {w : World} {g T at_ x size gc : Nat} {t : ByteArray} (h : w.rowIs g T 5 (decV t at_ x size gc)) :
    w.cell? ⟨g, 0, none⟩ = some (.string t) ∧ w.cell? ⟨g, 1, none⟩ = some (.int .i64 (at_ : Nat)) ∧ w.cell? ⟨g, 2, none⟩ = some (.int .u64 (x : Nat)) ∧ w.cell? ⟨g, 3, none⟩ = some (.int .u64 (size : Nat)) ∧ w.cell? ⟨g, 4, none⟩ = some (.slice (some ⟨gc, 0, none⟩) 1600 1600) :=
  ⟨h.cell (i := 0) (by omega), h.cell (i := 1) (by omega), h.cell (i := 2) (by omega), h.cell (i := 3) (by omega), h.cell (i := 4) (by omega)⟩
theorem dec_set {w : World} {g T at_ x size gc : Nat} {t : ByteArray} (h : w.rowIs g T 5 (decV t at_ x size gc)) : (∀ y : Nat, (w.setCell ⟨g, 1, none⟩ (.int .i64 (y : Int))).rowIs g T 5 (decV t y x size gc)) ∧ (∀ y : Nat, (w.setCell ⟨g, 2, none⟩ (.int .u64 (y : Int))).rowIs g T 5 (decV t at_ y size gc)) ∧ (∀ y : Nat, (w.setCell ⟨g, 3, none⟩ (.int .u64 (y : Int))).rowIs g T 5 (decV t at_ x y gc)) := by
  refine ⟨fun y => (h.set 1 _).congr ?_, fun y => (h.set 2 _).congr ?_, fun y => (h.set 3 _).congr ?_⟩
  · intro i hi
    match i, hi with
    | 0, _ => rfl
    | 1, _ => rfl
    | 2, _ => rfl
    | 3, _ => rfl
    | 4, _ => rfl
  · intro i hi
    match i, hi with
    | 0, _ => rfl
    | 1, _ => rfl
    | 2, _ => rfl
    | 3, _ => rfl
    | 4, _ => rfl
  · intro i hi
    match i, hi with
    | 0, _ => rfl
    | 1, _ => rfl
    | 2, _ => rfl
    | 3, _ => rfl
    | 4, _ => rfl
set_option maxRecDepth 100000 in
set_option maxHeartbeats 800000 in
theorem spec_next (g gc at_ x size : Nat) (t : ByteArray) (w : World) (hat : at_ ≤ 1000000) (_hts : t.size ≤ 9223372036854775807) (_hx : x < 18446744073709551616) (hr : w.rowIs g 216 5 (decV t at_ x size gc)) :
    Calls Tryz.prog 152 #[.pointer (some ⟨g, 0, none⟩)] w fun e w' => e = .returned (.tuple #[]) ∧ w'.rowIs g 216 5 (decV t (at_ + 1) ((256 * x + tbN t at_) % 18446744073709551616) size gc) ∧ w.grownBy w' (some g) := by
  obtain ⟨c0, c1, c2, c3, c4⟩ := dec_cells hr
  have f1 := hr.frozen 1
  have f2 := hr.frozen 2
  obtain ⟨X, hX⟩ : ∃ X, X = x * 256 % 18446744073709551616 := ⟨_, rfl⟩
  have kX : (x : Int) * 256 % 18446744073709551616 = (X : Int) := by omega
  have kX2 : IntKind.u64.wrap ((x : Int) * 256) = (X : Int) := by rw [IntKind.wrap_u64]; omega
  have hat' : (at_ : Int) ≤ 1000000 := by omega
  have r1 := (dec_set hr).2.1 X
  obtain ⟨d0, d1, d2, d3, d4⟩ := dec_cells r1
  have e1 := r1.frozen 1
  have e2 := r1.frozen 2
  have g1 : w.grownBy (w.setCell ⟨g, 2, none⟩ (.int .u64 (X : Int))) (some g) := grownBy_set ⟨rfl, rfl, rfl, Nat.le_refl _, fun _ _ _ => rfl⟩ _
  by_cases hlt : at_ < t.size
  · have hlt' : (at_ : Int) < (t.size : Int) := by omega
    have htb := tbN_in t at_ hlt
    obtain ⟨b, hb⟩ : ∃ b, b = tbN t at_ := ⟨_, rfl⟩
    have hb8 : b < 256 := by rw [hb]; exact tbN_lt t at_
    obtain ⟨Y, hY⟩ : ∃ Y, Y = (256 * x + b) % 18446744073709551616 := ⟨_, rfl⟩
    have ho := or64 x b hb8
    rw [kX, ← hY] at ho
    rw [← hb] at htb
    have HY := hide (show Y = (256 * x + tbN t at_) % 18446744073709551616 by rw [hY, hb])
    have F := hide (And.intro r1 (And.intro g1 (And.intro d0 (And.intro d1 (And.intro d2 (And.intro e1 e2))))))
    clear hX hr c0 c1 c3 c4 hY hb d0 d1 d2 d3 d4 e1 e2 r1 g1
    go_enter Tryz.func152, Tryz.ntmps152
    go_wp2_with fail
    clear c2 f1 f2 kX kX2
    obtain ⟨r1, g1, d0, d1, d2, e1, e2⟩ := F.out
    generalize w.setCell ⟨g, 2, none⟩ (.int .u64 (X : Int)) = W1 at *
    clear F
    go_quiet (fail)
    go_wp2_with fail
    have r2 := (dec_set (show (W1.drewN nq).rowIs g 216 5 (decV t at_ X size gc) from r1)).2.1 Y
    have r3 := (dec_set r2).1 (at_ + 1)
    have g2 : w.grownBy (W1.drewN nq) (some g) := ⟨g1.os, g1.tape, g1.output, g1.size, g1.block⟩
    have b0 : (W1.drewN nq).cell? ⟨g, 0, none⟩ = some (.string t) := d0
    have b1 : (W1.drewN nq).cell? ⟨g, 1, none⟩ = some (.int .i64 (at_ : Nat)) := d1
    have b2 : (W1.drewN nq).cell? ⟨g, 2, none⟩ = some (.int .u64 (X : Nat)) := d2
    have b3 : (W1.drewN nq).frozen? ⟨g, 2, none⟩ = false := e2
    have kw : IntKind.u64.wrap (b : Int) = (b : Int) := by rw [IntKind.wrap_u64]; omega
    obtain ⟨⟨c0, c1, c2, c3, c4⟩, fr⟩ := And.intro (dec_cells r2) (r2.frozen 1)
    have F := hide (And.intro r3 (And.intro g2 (And.intro c1 fr)))
    generalize W1.drewN nq = W2 at *
    clear r1 g1 d0 d1 d2 e1 e2 r2 r3 g2 c0 c1 c2 c3 c4 fr
    go_region
    obtain ⟨r3, g2, c1, fr⟩ := F.out
    have kn : (at_ : Int) + 1 = ((at_ + 1 : Nat) : Int) := by omega
    have g3 := grownBy_drew (grownBy_set (i := 1) (grownBy_set (i := 2) g2 (.int .u64 (Y : Int))) (.int .i64 ((at_ + 1 : Nat) : Int)))
    have G := hide (And.intro r3 g3)
    generalize hA1 : at_ + 1 = a1 at *
    have HA1 := hide hA1
    clear F b0 b1 b2 b3 kw htb ho r3 g3 g2 hA1
    go_wp2_with fail
    go_end0
    exact ⟨rfl, by rw [← HY.out, HA1.out]; exact G.out.1.drew, G.out.2⟩
  · have hlt' : ¬ (at_ : Int) < (t.size : Int) := by omega
    have HX := hide (show X = (256 * x + tbN t at_) % 18446744073709551616 by rw [tbN_far t at_ (by omega), hX]; omega)
    have F := hide (And.intro r1 (And.intro g1 (And.intro d0 (And.intro d1 (And.intro d2 (And.intro e1 e2))))))
    clear hX hr c0 c1 c3 c4 d0 d1 d2 d3 d4 e1 e2 r1 g1
    go_enter Tryz.func152, Tryz.ntmps152
    go_wp2_with fail
    clear c2 f1 f2 kX kX2
    obtain ⟨r1, g1, d0, d1, d2, e1, e2⟩ := F.out
    generalize w.setCell ⟨g, 2, none⟩ (.int .u64 (X : Int)) = W1 at *
    clear F
    go_quiet (fail)
    have r2 := (dec_set (show (W1.drewN nq).rowIs g 216 5 (decV t at_ X size gc) from r1)).1 (at_ + 1)
    have g2 : w.grownBy (W1.drewN nq) (some g) := ⟨g1.os, g1.tape, g1.output, g1.size, g1.block⟩
    have g3 := grownBy_set (i := 1) g2 (.int .i64 ((at_ + 1 : Nat) : Int))
    have b1 : (W1.drewN nq).cell? ⟨g, 1, none⟩ = some (.int .i64 (at_ : Nat)) := d1
    have b3 : (W1.drewN nq).frozen? ⟨g, 1, none⟩ = false := e1
    have kn : (at_ : Int) + 1 = ((at_ + 1 : Nat) : Int) := by omega
    have G := hide (And.intro r2 g3)
    generalize W1.drewN nq = W2 at *
    generalize hA1 : at_ + 1 = a1 at *
    have HA1 := hide hA1
    clear r1 g1 d0 d1 d2 e1 e2 r2 g2 g3 hA1
    go_wp2_with fail
    go_end0
    exact ⟨rfl, by rw [← HX.out, HA1.out]; exact G.out.1, G.out.2⟩
theorem pv_lt (tb : Nat → Nat) (h : ∀ j, tb j < 256) : ∀ k, pv tb k < 256 ^ k
  | 0 => by show (0 : Nat) < 1; omega
  | k + 1 => by
    have h1 := pv_lt tb h k
    have h2 := h k
    show 256 * pv tb k + tb k < 256 ^ (k + 1)
    rw [Nat.pow_succ]; omega
/-- A decoder at work. -/
def Dec (w : World) (g gc : Nat) (t : ByteArray) (s : RC) (x : Nat) : Prop := w.rowIs g 216 5 (decV t (s.n + 4) x s.size gc) ∧ w.rowIs gc 58 1600 (u64V s.ch)
set_option maxRecDepth 100000 in
set_option maxHeartbeats 800000 in
theorem spec_decode0 (t : ByteArray) (w : World) (hts : t.size ≤ 9223372036854775807) :
    Calls Tryz.prog 134 #[.string t] w fun e w' => ∃ g, e = .returned (.pointer (some ⟨g, 0, none⟩)) ∧ w.heap.size < g ∧ Dec w' g w.heap.size t rc0 (pv (tbN t) 4) ∧ Below w.heap.size w w' := by
  go_enter Tryz.func134, Tryz.ntmps134
  go_wp2_with fail
  refine (spec_chances w).mono ?_
  rintro e w1 ⟨rfl, hch, hb1⟩
  go_wp2_with fail
  have hlt := hch.lt
  have R0 := hide (show (w1.alloc (.cells #[.string t, .int .i64 0, .int .u64 0, .int .u64 4294967295, .slice (some ⟨w.heap.size, 0, none⟩) 1600 1600] 216)).rowIs w1.heap.size 216 5 (decV t 0 0 4294967295 w.heap.size) from
    World.rowIs_alloc w1 _ _ _ (fun i hi => match i, hi with
      | 0, _ => rfl
      | 1, _ => rfl
      | 2, _ => rfl
      | 3, _ => rfl
      | 4, _ => rfl))
  have R1 := hide (hch.alloc (.cells #[.string t, .int .i64 0, .int .u64 0, .int .u64 4294967295, .slice (some ⟨w.heap.size, 0, none⟩) 1600 1600] 216))
  have RB := hide (hb1.alloc hb1.size (.cells #[.string t, .int .i64 0, .int .u64 0, .int .u64 4294967295, .slice (some ⟨w.heap.size, 0, none⟩) 1600 1600] 216))
  generalize w1.alloc (.cells #[.string t, .int .i64 0, .int .u64 0, .int .u64 4294967295, .slice (some ⟨w.heap.size, 0, none⟩) 1600 1600] 216) = W1 at *
  generalize w1.heap.size = g at *
  clear hch hb1
  go_loopw [4] (fun i wx => ∃ k : Nat, k ≤ 4 ∧ i = .int .i64 k ∧ Hid (wx.rowIs g 216 5 (decV t k (pv (tbN t) k) 4294967295 w.heap.size)) ∧ Hid (wx.rowIs w.heap.size 58 1600 (u64V fun _ => 1024)) ∧ Hid (Below w.heap.size w wx)) (fun i _ => 4 - (intOf i).toNat)
  case atStart => exact ⟨0, by omega, rfl, R0, R1, RB⟩
  case round =>
    clear R0 R1 RB
    obtain ⟨k, hk, rfl, hr, hc, hb⟩ := hrel
    by_cases hk4 : k < 4
    · have hk4' : (k : Int) < 4 := by omega
      have hp := pv_lt (tbN t) (tbN_lt t) k
      have hp2 : 256 ^ k ≤ 256 ^ 3 := Nat.pow_le_pow_right (by omega) (by omega)
      have hp3 : pv (tbN t) k < 16777216 := Nat.lt_of_lt_of_le hp hp2
      have ht8 := tbN_lt t k
      have SN := hide (spec_next g w.heap.size k (pv (tbN t) k) 4294967295 t wr (by omega) hts (by omega) hr.out)
      rw [Nat.mod_eq_of_lt (by omega)] at SN
      go_wp2_with fail
      refine SN.out.mono ?_
      rintro e w2 ⟨rfl, hr2, hg2⟩
      have hc2 := hide (hc.out.of_block (hg2.block w.heap.size hc.out.lt (by simp; omega)))
      have hb2 := hide (hb.out.trans (grownBy_below hg2 (Nat.le_of_lt hlt) (Nat.le_of_lt hc.out.lt)))
      have hr3 := hide hr2
      clear hr2 hg2 hc hb hr SN
      go_wp2_with fail
      go_roundw
      case rel => exact ⟨k + 1, by omega, by go_num, hr3, hc2, hb2⟩
      case measure => simp [intOf]; omega
    · have hk4' : ¬ (k : Int) < 4 := by omega
      have e4 : k = 4 := by omega
      subst e4
      go_wp2_with fail
      go_ret
      exact ⟨g, rfl, hlt, ⟨hr.out, hc.out⟩, hb.out⟩
end Go.Proofs.YtconcnndghmdfaaGreatDoor
