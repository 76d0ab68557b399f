"""Saw teeth: sums over the heights of a saw, reckoned in whole numbers."""
