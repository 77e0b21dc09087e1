"""Gradecut: sewing patterns let out and taken in by sizes, with seams that still meet."""
